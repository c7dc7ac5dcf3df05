/- Contracts of the program's functions. -/
import Derived.Test.YtjpahjfjpkbcnaaGreatB06
import Derived.Test.YtjpahjfjpkbcnaaGreatB02
import Derived.Test.YtjpahjfjpkbcnaaGreatB09
import Derived.Test.YtjpahjfjpkbcnaaGreatB08
import Derived.Deep.CutRange
import Derived.Test.YtjpahjfjpkbcnaaGreatB03
import Derived.Test.YtjpahjfjpkbcnaaGreatB05
import Derived.Test.YtjpahjfjpkbcnaaGreatB04

namespace Go.Proofs.YtjpahjfjpkbcnaaGreat
open Go.Proofs Go.RowKit
set_option maxHeartbeats 1000000 in
theorem Fresh_any (l : List ByteArray) (v : Value) (w : World) (hv : SlV w.heap.size v l.length fun b o => StrsAt w l b o) (hl : l.length ≤ 1000000) :
  Calls Tryz.prog 19 #[v] w fun e w' => e = .returned (.string (firstW (inL l))) ∧ Below w.heap.size w w' := by
 obtain ⟨a, cap, rfl, -⟩ := hv.split
 have hb0 : Below w.heap.size w (w.alloc (.cells #[.slice a l.length cap] 22)) := (Below.refl _ w).alloc (Nat.le_refl _) _
 have hx := heap_alloc_new w (.cells #[.slice a l.length cap] 22)
 have hr := reserve_any [l] w.heap.size 0 1 (w.alloc (.cells #[.slice a l.length cap] 22)) (by simp) (fun i hi => by
  obtain rfl : i = 0 := by simpa using hi
  refine ⟨_, cell_of_one hx, ?_⟩
  show SlV _ (.slice a l.length cap) l.length fun b o => StrsAt _ l b o
  exact hv.mono (by simp) fun b o hlt hr => StrsAt.keep hb0 _ _ _ hlt hr) (by simpa using hl) (by simp)
 have hfl : [l].flatten = l := by simp
 rw [hfl] at hr
 have HR := lh hr; have HB0 := lh hb0
 clear hr hb0 hx hv
 go_enter Tryz.func19, Tryz.ntmps19
 go_wp2_with fail
 refine HR.o.mono ?_
 rintro e w1 ⟨rfl, hset, hb1⟩
 simp only [World.size_alloc] at hset
 have HF := lh (callsIn_wide.1 (first_any _ _ _ w1 hset))
 have HB1 := lh hb1
 clear hset hb1 HR
 go_wp2_with fail
 refine HF.o.mono ?_
 rintro e w2 ⟨rfl, hb2⟩
 have HB2 := lh hb2
 clear hb2 HF
 go_wp2
 go_ret
 have h1 := HB0.o.trans (HB1.o.mono (by simp))
 exact ⟨rfl, h1.trans (HB2.o.mono h1.size)⟩
def sameL : List ByteArray → List ByteArray → Bool
 | [], [] => true
 | x :: xs, y :: ys => (x.toList == y.toList) && sameL xs ys
 | [], _ :: _ => false
 | _ :: _, [] => false
theorem sameL_drop (ps qs : List ByteArray) (k : Nat) (h1 : k < ps.length) (h2 : k < qs.length) : sameL (ps.drop k) (qs.drop k) = ((ps[k].toList == qs[k].toList) && sameL (ps.drop (k + 1)) (qs.drop (k + 1))) := by
 rw [drop_cons ps k h1, drop_cons qs k h2]
 conv => lhs; unfold sameL
theorem sameL_len : ∀ (ps qs : List ByteArray), ps.length ≠ qs.length → sameL ps qs = false
 | [], [], h => (h rfl).elim
 | p :: ps, q :: qs, h => by unfold sameL; rw [sameL_len ps qs (by simpa using h), Bool.and_false]
 | [], _ :: _, _ => by unfold sameL; rfl
 | _ :: _, [], _ => by unfold sameL; rfl
set_option maxHeartbeats 2000000 in
theorem SameNames_any (ps qs : List ByteArray) (v v' : Value) (w : World) (hv : SlV w.heap.size v ps.length fun b o => StrsAt w ps b o) (hv' : SlV w.heap.size v' qs.length fun b o => StrsAt w qs b o) (hl : ps.length ≤ 1000000) :
  Calls Tryz.prog 27 #[v, v'] w fun e w' => e = .returned (.bool (sameL ps qs)) ∧ Below w.heap.size w w' := by
 obtain ⟨a, cap, rfl, hcap, hlc, hka⟩ := hv.split
 obtain ⟨a', cap', rfl, hcap', hlc', hka'⟩ := hv'.split
 clear hv hv'
 have HKA := lh hka; have HKA' := lh hka'; clear hka hka'
 go_enter Tryz.func27, Tryz.ntmps27
 by_cases hne : ps.length = qs.length
 ·have hni : (ps.length : Int) = (qs.length : Int) := by omega
  have HNE := lh hne
  clear hne
  go_wp2
  go_loopw [5] (fun i wr => ∃ k : Nat, k ≤ ps.length ∧ i = .int .i64 k ∧ Hid (sameL ps qs = sameL (ps.drop k) (qs.drop k)) ∧ Below w.heap.size w wr) (fun i _ => ps.length - (intOf i).toNat)
  case atStart => exact ⟨0, Nat.zero_le _, rfl, rfl, Below.refl _ _⟩
  case round =>
   obtain ⟨k, hk, rfl, hh, hB⟩ := hrel
   have hhn := HNE.o
   by_cases hlt : k < ps.length
   ·have hlt2 : k < qs.length := by omega
    have hki : (k : Int) < (qs.length : Int) := by omega
    obtain ⟨b, o, rfl, hbn, hss⟩ := HKA.o (by omega)
    obtain ⟨b', o', rfl, hbn', hss'⟩ := HKA'.o (by omega)
    obtain ⟨g0, -⟩ := StrsAt.get ps b o hss k hlt
    obtain ⟨i0, -⟩ := StrsAt.get qs b' o' hss' k hlt2
    have q0 := (hB.cell (p := ⟨b, _, none⟩) hbn).trans g0
    have r0 := (hB.cell (p := ⟨b', _, none⟩) hbn').trans i0
    have HB := lh hB; have HH := hh
    have HD := lh (sameL_drop ps qs k hlt hlt2)
    clear hB hh hss hss' g0 i0 hhn
    cases he : (ps[k].toList == qs[k].toList)
    ·have HF := lh (show sameL ps qs = false by rw [HH.o, HD.o, he]; rfl)
     go_wp2_with fail
     go_quiet (fail)
     all_goals go_wp2
     all_goals (go_ret; exact ⟨ret_bool HF.o.symm, below_drewN HB.o _⟩)
    ·have HF := lh (show sameL ps qs = sameL (ps.drop (k + 1)) (qs.drop (k + 1)) by rw [HH.o, HD.o, he]; rfl)
     go_wp2_with fail
     go_quiet (fail)
     all_goals go_wp2
     all_goals go_roundw
     case rel => exact ⟨k + 1, by omega, by go_num, HF.o, below_drewN HB.o _⟩
     case measure => simp [intOf]; omega
   ·obtain rfl : k = ps.length := by omega
    have HF := lh (show sameL ps qs = true by rw [hh.o, List.drop_length, hhn, List.drop_length]; rfl)
    have HB := lh hB
    clear hh hB hhn
    go_wp2
    go_ret
    exact ⟨ret_bool HF.o.symm, HB.o⟩
 ·have hni : ¬ (ps.length : Int) = (qs.length : Int) := by omega
  have hf := sameL_len ps qs hne
  have HF := lh hf
  clear hf hne
  go_wp2
  go_ret
  exact ⟨ret_bool HF.o.symm, Below.refl _ _⟩
theorem bc56_fit : Fit bc56 := ⟨by rw [k8]; decide, by unfold bc56 nm56; simp [okM, oksM, heightsP], by unfold bc56 nm56; simp [lensM, lenssM, lenssP]⟩
theorem two56_fit : Fit two56 := ⟨by rw [show heightM two56 = 2 by kernel_rfl]; decide, by unfold two56 nm56; simp [okM, oksM, heightsP], by unfold two56 nm56; simp [lensM, lenssM, lenssP]⟩
theorem one56_fit : Fit one56 := ⟨by rw [show heightM one56 = 2 by kernel_rfl]; decide, by unfold one56 nm56; simp [okM, oksM, heightsP], by unfold one56 nm56; simp [lensM, lenssM, lenssP]⟩
theorem E56_fit : Fit (E56 pE) := ⟨by rw [k3]; decide, by unfold E56 pl56 nm56 pE; simp [okM, oksM, heightsP, heightP], by unfold E56 pl56 nm56 pE; simp [lensM, lenssM, lenssP, lensP]⟩
theorem nodes56 : nodesM (E56 pE) = 5 := by kernel_rfl
theorem depth56 : depthM (E56 pE) = 3 := by kernel_rfl
theorem same56 : sameL [⟨#[97]⟩, ⟨#[100]⟩] [⟨#[97]⟩, ⟨#[100]⟩] = true := by kernel_rfl
theorem same56' : sameL [⟨#[101]⟩, ⟨#[102]⟩] [⟨#[101]⟩, ⟨#[102]⟩] = true := by kernel_rfl
theorem names56 : nameB ⟨#[97, 98, 99]⟩ = true ∧ nameB ⟨#[116, 104, 101, 110]⟩ = false ∧ greatB ⟨#[65]⟩ = true ∧ nameB ⟨#[100]⟩ = true := ⟨by kernel_rfl, by kernel_rfl, by kernel_rfl, by kernel_rfl⟩
theorem fresh56 : firstW (inL [⟨#[97]⟩, ⟨#[99]⟩]) = ⟨#[98]⟩ := by kernel_rfl
theorem Subst56 (v bv : Value) (w : World) (hT : TmAt w.heap.size w (E56 pE) v) (hb : TmAt w.heap.size w bc56 bv) :
  Calls Tryz.prog 49 #[v, .string ⟨#[100]⟩, bv] w fun e w' => (∃ nv, e = .returned (.tuple #[nv, .int .i64 0]) ∧ TmAt w'.heap.size w' sub56 nv) ∧ Below w.heap.size w w' :=
 (Subst_any ⟨#[100]⟩ bc56 (E56 pE) v bv w (by decide) hT hb E56_fit bc56_fit).mono (by
  rintro e w' ⟨h, hbw⟩
  unfold SubstEnd at h
  rw [k1, k2, names56.2.2.2, if_pos (show (true && true && true) = true from rfl), k3, sb5, if_pos termSub56] at h
  obtain ⟨nv, rfl, hn⟩ := h
  exact ⟨⟨nv, rfl, TmIn.to (fun b h => h.2) _ _ hn⟩, hbw⟩)
theorem Nodes56 (v : Value) (w : World) (hT : TmAt w.heap.size w (E56 pE) v) : Calls Tryz.prog 37 #[v] w fun e w' => e = .returned (.tuple #[.int .i64 5, .int .i64 0]) ∧ Below w.heap.size w w' :=
 (Nodes_any (E56 pE) v w hT E56_fit.h E56_fit.ok).mono (by rintro e w' ⟨h, hb⟩; rw [k1, if_pos rfl, nodes56] at h; exact ⟨h, hb⟩)
theorem Depth56 (v : Value) (w : World) (hT : TmAt w.heap.size w (E56 pE) v) : Calls Tryz.prog 38 #[v] w fun e w' => e = .returned (.tuple #[.int .i64 3, .int .i64 0]) ∧ Below w.heap.size w w' :=
 (Depth_any (E56 pE) v w hT E56_fit.h E56_fit.ok).mono (by rintro e w' ⟨h, hb⟩; rw [k1, if_pos rfl, depth56] at h; exact ⟨h, hb⟩)
theorem Free56 (v : Value) (w : World) (hT : TmAt w.heap.size w (E56 pE) v) : Calls Tryz.prog 47 #[v] w fun e w' => (∃ v', e = .returned (.tuple #[v', .int .i64 0]) ∧ SlV w'.heap.size v' 2 fun b o => StrsAt w' [⟨#[97]⟩, ⟨#[100]⟩] b o) ∧ Below w.heap.size w w' :=
 (Free_any (E56 pE) v w hT E56_fit.h E56_fit.ok).mono (by
  rintro e w' ⟨h, hb⟩
  unfold FreeEnd at h
  rw [if_pos k1, k4] at h
  obtain ⟨v', rfl, hv⟩ := h
  exact ⟨⟨v', rfl, hv.to (fun b h => h.2) fun _ _ h => h⟩, hb⟩)
theorem At56 (v pv : Value) (w : World) (hT : TmAt w.heap.size w (E56 pE) v) (hp : SlV w.heap.size pv 2 fun b o => IntsAt w [1, 0] b o) :
  Calls Tryz.prog 39 #[v, pv] w fun e w' => (∃ nv, e = .returned (.tuple #[nv, .int .i64 0]) ∧ TmAt w'.heap.size w' (nm56 ⟨#[98]⟩) nv) ∧ Below w.heap.size w w' :=
 (At_any (E56 pE) v pv [1, 0] w hT hp (by decide) E56_fit).mono (by
  rintro e w' ⟨h, hb⟩
  unfold AtEnd at h
  rw [if_pos k1, k14] at h
  obtain ⟨nv, rfl, hn⟩ := h
  exact ⟨⟨nv, rfl, TmNew.at hn⟩, hb⟩)
theorem Alike56 (v v' : Value) (w : World) (h1 : TmAt w.heap.size w one56 v) (h2 : TmAt w.heap.size w two56 v') :
  Calls Tryz.prog 52 #[v, v'] w fun e w' => e = .returned (.tuple #[.bool true, .int .i64 0]) ∧ Below w.heap.size w w' :=
 (Alike_any one56 two56 v v' w h1 h2 one56_fit two56_fit).mono (by
  rintro e w' ⟨h, hb⟩
  unfold AlikeEnd at h
  rw [k5.1, k5.2, alike56] at h
  exact ⟨h, hb⟩)
theorem Canon56 (v : Value) (w : World) (h1 : TmAt w.heap.size w two56 v) :
  Calls Tryz.prog 53 #[v] w fun e w' => (∃ nv, e = .returned (.tuple #[nv, .int .i64 0]) ∧ TmAt w'.heap.size w' (.mk 5 0 ⟨#[97]⟩ [nm56 ⟨#[97]⟩] []) nv) ∧ Below w.heap.size w w' :=
 (Canon_any two56 v w h1 two56_fit).mono (by
  rintro e w' ⟨h, hb⟩
  unfold CanonEnd at h
  rw [if_pos k5.1, canTwo] at h
  obtain ⟨nv, rfl, hn⟩ := h
  exact ⟨⟨nv, rfl, TmIn.to (fun b h => h.2) _ _ hn⟩, hb⟩)
theorem Fresh56 (v : Value) (w : World) (hv : SlV w.heap.size v 2 fun b o => StrsAt w [⟨#[97]⟩, ⟨#[99]⟩] b o) : Calls Tryz.prog 19 #[v] w fun e w' => e = .returned (.string ⟨#[98]⟩) ∧ Below w.heap.size w w' :=
 (Fresh_any [⟨#[97]⟩, ⟨#[99]⟩] v w hv (by decide)).mono (by rintro e w' ⟨h, hb⟩; rw [fresh56] at h; exact ⟨h, hb⟩)
set_option maxHeartbeats 2000000 in
set_option maxRecDepth 100000 in
theorem plus_any (A C : Tm) (v v' : Value) (w : World) (hA : TmAt w.heap.size w A v) (hC : TmAt w.heap.size w C v') :
  Calls Tryz.prog 57 #[v, v'] w fun e w' => (∃ u, e = .returned u ∧ TmAt w'.heap.size w' (.mk 9 0 ⟨#[]⟩ [A, C] []) u) ∧ Below w.heap.size w w' := by
 obtain ⟨oo, nn, tt, ka, kn, kc, pa, pn, pc, rfl⟩ : ∃ oo nn tt ka kn kc pa pn pc, v = .agg #[.int .i64 oo, .int .i64 nn, .string tt, .slice ka kn kc, .slice pa pn pc] := by
  obtain ⟨a, cap, a', cap', rfl, -⟩ := hA.parts
  exact ⟨_, _, _, _, _, _, _, _, _, rfl⟩
 obtain ⟨oo', nn', tt', ka', kn', kc', pa', pn', pc', rfl⟩ : ∃ oo nn tt ka kn kc pa pn pc, v' = .agg #[.int .i64 oo, .int .i64 nn, .string tt, .slice ka kn kc, .slice pa pn pc] := by
  obtain ⟨a, cap, a', cap', rfl, -⟩ := hC.parts
  exact ⟨_, _, _, _, _, _, _, _, _, rfl⟩
 obtain ⟨W1, hW1⟩ : ∃ W1, W1 = (w.alloc (.cells #[.int .i64 oo, .int .i64 nn, .string tt, .slice ka kn kc, .slice pa pn pc] 32)).alloc (.cells #[.int .i64 oo', .int .i64 nn', .string tt', .slice ka' kn' kc', .slice pa' pn' pc'] 32) := ⟨_, rfl⟩
 have hb1 : Below w.heap.size w W1 := by rw [hW1]; exact ((Below.refl _ w).alloc (Nat.le_refl _) _).alloc (by simp) _
 have hs1 : W1.heap.size = w.heap.size + 2 := by rw [hW1]; simp
 have hx1 : W1.heap[w.heap.size]? = some (.cells #[.int .i64 oo, .int .i64 nn, .string tt, .slice ka kn kc, .slice pa pn pc] 32 (0, 0)) := by rw [hW1, Below.heap_alloc _ _ _ (by simp)]; exact heap_alloc_new _ _
 have hx2 : W1.heap[w.heap.size + 1]? = some (.cells #[.int .i64 oo', .int .i64 nn', .string tt', .slice ka' kn' kc', .slice pa' pn' pc'] 32 (0, 0)) := by
  rw [hW1]; have := heap_alloc_new (w.alloc (.cells #[.int .i64 oo, .int .i64 nn, .string tt, .slice ka kn kc, .slice pa pn pc] 32)) (.cells #[.int .i64 oo', .int .i64 nn', .string tt', .slice ka' kn' kc', .slice pa' pn' pc'] 32); simpa using this
 have hb2 : Below w.heap.size w (W1.alloc (.cells #[.int .i64 0, .int .i64 0, .string ⟨#[]⟩, .slice none 0 0, .slice none 0 0] 32)) := hb1.trans ((Below.refl _ W1).alloc (by omega) _)
 have hy1 := bget' ((Below.refl W1.heap.size W1).alloc (Nat.le_refl _) (.cells #[.int .i64 0, .int .i64 0, .string ⟨#[]⟩, .slice none 0 0, .slice none 0 0] 32)) hx1
 have hy2 := bget' ((Below.refl W1.heap.size W1).alloc (Nat.le_refl _) (.cells #[.int .i64 0, .int .i64 0, .string ⟨#[]⟩, .slice none 0 0, .slice none 0 0] 32)) hx2
 have hy3 := heap_alloc_new W1 (.cells #[.int .i64 0, .int .i64 0, .string ⟨#[]⟩, .slice none 0 0, .slice none 0 0] 32)
 rw [hs1] at hy3
 replace hy3 : (W1.alloc (.cells #[.int .i64 0, .int .i64 0, .string ⟨#[]⟩, .slice none 0 0, .slice none 0 0] 32)).heap[w.heap.size + 1 + 1]? = some (.cells #[.int .i64 0, .int .i64 0, .string ⟨#[]⟩, .slice none 0 0, .slice none 0 0] 32 (0, 0)) := hy3
 have hs3 : (W1.alloc (.cells #[.int .i64 0, .int .i64 0, .string ⟨#[]⟩, .slice none 0 0, .slice none 0 0] 32)).heap.size = w.heap.size + 3 := by simp [hs1]
 have HA := lh hA; have HC := lh hC
 clear hA hC hx1 hx2
 go_enter Tryz.func57, Tryz.ntmps57
 go_upto_region 1 with fail
 rw [← hW1]
 generalize (W1.alloc (.cells #[.int .i64 0, .int .i64 0, .string ⟨#[]⟩, .slice none 0 0, .slice none 0 0] 32)) = V at *
 obtain ⟨c0, c1, c2, c3, c4⟩ := cells5 hy1
 obtain ⟨d0, d1, d2, d3, d4⟩ := cells5 hy2
 have hten := heap_alloc_new V (.cells #[.int .i64 oo, .int .i64 nn, .string tt, .slice ka kn kc, .slice pa pn pc, .int .i64 oo', .int .i64 nn', .string tt', .slice ka' kn' kc', .slice pa' pn' pc'] 32)
 have hbT : Below V.heap.size V (V.alloc (.cells #[.int .i64 oo, .int .i64 nn, .string tt, .slice ka kn kc, .slice pa pn pc, .int .i64 oo', .int .i64 nn', .string tt', .slice ka' kn' kc', .slice pa' pn' pc'] 32)) := (Below.refl _ V).alloc (Nat.le_refl _) _
 have hz := bget' hbT hy3
 obtain ⟨z0, z1, z2, z3, z4⟩ := cells5 hz
 have f2 := free_box hz
 have HB2 := lh hb2; have HTEN := lh hten; have HBT := lh hbT; have HS3 := lh hs3
 clear hy1 hy2 hy3 hz hten hbT hb1 hb2 hs1 hs3 hW1
 go_wp2
 have hkp : Kept (fun k => k = w.heap.size + 1 + 1) (V.alloc (.cells #[.int .i64 oo, .int .i64 nn, .string tt, .slice ka kn kc, .slice pa pn pc, .int .i64 oo', .int .i64 nn', .string tt', .slice ka' kn' kc', .slice pa' pn' pc'] 32)) ((((((V.alloc (.cells #[.int .i64 oo, .int .i64 nn, .string tt, .slice ka kn kc, .slice pa pn pc, .int .i64 oo', .int .i64 nn', .string tt', .slice ka' kn' kc', .slice pa' pn' pc'] 32)).setCell ⟨w.heap.size + 1 + 1, 0, none⟩ (.int .i64 9)).setCell ⟨w.heap.size + 1 + 1, 1, none⟩ (.int .i64 0)).setCell ⟨w.heap.size + 1 + 1, 2, none⟩ (.string ⟨#[]⟩)).setCell ⟨w.heap.size + 1 + 1, 3, none⟩ (.slice (some ⟨V.heap.size, 0, none⟩) 2 2)).setCell ⟨w.heap.size + 1 + 1, 4, none⟩ (.slice none 0 0)) :=
  ((((Kept.setCell (S := fun k => k = w.heap.size + 1 + 1) _ rfl _).trans (.setCell (S := fun k => k = w.heap.size + 1 + 1) _ rfl _)).trans (.setCell (S := fun k => k = w.heap.size + 1 + 1) _ rfl _)).trans (.setCell (S := fun k => k = w.heap.size + 1 + 1) _ rfl _)).trans (.setCell (S := fun k => k = w.heap.size + 1 + 1) _ rfl _)
 have hsz := HS3.o
 have h10 := hkp.get HTEN.o (by omega)
 have hB : Below w.heap.size w ((((((V.alloc (.cells #[.int .i64 oo, .int .i64 nn, .string tt, .slice ka kn kc, .slice pa pn pc, .int .i64 oo', .int .i64 nn', .string tt', .slice ka' kn' kc', .slice pa' pn' pc'] 32)).setCell ⟨w.heap.size + 1 + 1, 0, none⟩ (.int .i64 9)).setCell ⟨w.heap.size + 1 + 1, 1, none⟩ (.int .i64 0)).setCell ⟨w.heap.size + 1 + 1, 2, none⟩ (.string ⟨#[]⟩)).setCell ⟨w.heap.size + 1 + 1, 3, none⟩ (.slice (some ⟨V.heap.size, 0, none⟩) 2 2)).setCell ⟨w.heap.size + 1 + 1, 4, none⟩ (.slice none 0 0)) := (HB2.o.trans (HBT.o.mono HB2.o.size)).trans (hkp.below (HB2.o.trans (HBT.o.mono HB2.o.size)).size (by rintro k rfl; omega))
 refine bodyPost_ret (v := .agg #[.int .i64 9, .int .i64 0, .string ⟨#[]⟩, .slice (some ⟨V.heap.size, 0, none⟩) 2 2, .slice none 0 0]) (by simp [results, Tryz.results57, go_sem, z0, z1, z2, z3, z4]) rfl ⟨⟨_, rfl, ?_⟩, hB⟩
 have hn := hB.size
 unfold TmAt
 refine ⟨_, _, rfl, Nat.zero_le _, .inr ⟨V.heap.size, 0, 2, rfl, Nat.le_refl _, by unfold maxLen; omega, lt_of_block h10, ?_⟩, .inl ⟨rfl, none, 0, rfl, Nat.zero_le _⟩⟩
 unfold TmsAt
 refine ⟨⟨_, _, _, _, _, cell_box h10, cell_box h10, cell_box h10, cell_box h10, cell_box h10, TmAt.keep hB hn _ _ HA.o⟩, ?_⟩
 unfold TmsAt
 refine ⟨⟨_, _, _, _, _, cell_box h10, cell_box h10, cell_box h10, cell_box h10, cell_box h10, TmAt.keep hB hn _ _ HC.o⟩, ?_⟩
 unfold TmsAt
 trivial
theorem TmAt.shape' {n : Nat} {w : World} {T : Tm} {v : Value} (h : TmAt n w T v) : ∃ oo nn tt ka kn kc pa pn pc, v = .agg #[.int .i64 oo, .int .i64 nn, .string tt, .slice ka kn kc, .slice pa pn pc] := by
 obtain ⟨a, cap, a', cap', rfl, -⟩ := h.parts
 exact ⟨_, _, _, _, _, _, _, _, _, rfl⟩
theorem fun_at (s : ByteArray) (hs : s.size ≤ maxLen) (w : World) (c0 c1 : Int) (c2 : ByteArray) (c3 c4 : Option Addr) (m3 k3 m4 k4 : Nat) (h : TmAt w.heap.size w (nm56 s) (.agg #[.int .i64 c0, .int .i64 c1, .string c2, .slice c3 m3 k3, .slice c4 m4 k4])) (W : World)
  (hW : W = (w.alloc (.cells #[.int .i64 c0, .int .i64 c1, .string c2, .slice c3 m3 k3, .slice c4 m4 k4] 32)).alloc (.cells #[.int .i64 5, .int .i64 0, .string s, .slice (some ⟨w.heap.size, 0, none⟩) 1 1, .slice none 0 0] 32)) :
  Below w.heap.size w W ∧ W.heap[w.heap.size + 1]? = some (.cells #[.int .i64 5, .int .i64 0, .string s, .slice (some ⟨w.heap.size, 0, none⟩) 1 1, .slice none 0 0] 32 (0, 0)) ∧
  TmAt W.heap.size W (.mk 5 0 s [nm56 s] []) (.agg #[.int .i64 5, .int .i64 0, .string s, .slice (some ⟨w.heap.size, 0, none⟩) 1 1, .slice none 0 0]) := by
 have hb : Below w.heap.size w W := by rw [hW]; exact ((Below.refl _ w).alloc (Nat.le_refl _) _).alloc (by simp) _
 have hx : W.heap[w.heap.size]? = some (.cells #[.int .i64 c0, .int .i64 c1, .string c2, .slice c3 m3 k3, .slice c4 m4 k4] 32 (0, 0)) := by rw [hW, Below.heap_alloc _ _ _ (by simp)]; exact heap_alloc_new _ _
 have hy : W.heap[w.heap.size + 1]? = some (.cells #[.int .i64 5, .int .i64 0, .string s, .slice (some ⟨w.heap.size, 0, none⟩) 1 1, .slice none 0 0] 32 (0, 0)) := by
  rw [hW]
  have := heap_alloc_new (w.alloc (.cells #[.int .i64 c0, .int .i64 c1, .string c2, .slice c3 m3 k3, .slice c4 m4 k4] 32)) (.cells #[.int .i64 5, .int .i64 0, .string s, .slice (some ⟨w.heap.size, 0, none⟩) 1 1, .slice none 0 0] 32)
  simpa using this
 refine ⟨hb, hy, ?_⟩
 unfold TmAt
 refine ⟨_, _, rfl, hs, .inr ⟨w.heap.size, 0, 1, rfl, Nat.le_refl _, by unfold maxLen; omega, lt_of_block hx, ?_⟩, .inl ⟨rfl, none, 0, rfl, Nat.zero_le _⟩⟩
 unfold TmsAt
 refine ⟨⟨_, _, _, _, _, cell_box hx, cell_box hx, cell_box hx, cell_box hx, cell_box hx, TmAt.keep hb hb.size _ _ h⟩, ?_⟩
 unfold TmsAt
 trivial
theorem name_to (s : ByteArray) (hs : s.size ≤ maxLen) (w : World) : Calls Tryz.prog 58 #[.string s] w fun e w' => (∃ v, e = .returned v ∧ TmAt w'.heap.size w' (nm56 s) v) ∧ Below w.heap.size w w' :=
 (name_in s hs w).mono (by rintro e w' ⟨⟨v, h1, h2⟩, h3⟩; exact ⟨⟨v, h1, TmIn.to (fun b h => h.elim) _ _ h2⟩, h3⟩)
def pSub : Pt := .mk 6 0 ⟨#[67, 111, 110, 115]⟩ [.mk 2 0 ⟨#[101]⟩ [], .mk 2 0 ⟨#[102]⟩ []]
theorem sub_shape {n : Nat} {w : World} {v : Value} (h : TmAt n w sub56 v) : ∃ (a : Option Addr) (cap b o cap' : Nat), v = .agg #[.int .i64 15, .int .i64 0, .string ⟨#[]⟩, .slice a 2 cap, .slice (some ⟨b, o, none⟩) 1 cap'] := by
 unfold sub56 TmAt at h
 obtain ⟨kv, pv, rfl, h1, h2, h3⟩ := h
 obtain ⟨a, cap, rfl, -⟩ := h2.split
 rcases h3 with ⟨h3, -⟩ | ⟨b, o, cap', rfl, -⟩
 ·cases h3
 ·exact ⟨a, cap, b, o, cap', rfl⟩
theorem sub_pats {n : Nat} {w : World} {a : Option Addr} {cap b o cap' : Nat} (h : TmAt n w sub56 (.agg #[.int .i64 15, .int .i64 0, .string ⟨#[]⟩, .slice a 2 cap, .slice (some ⟨b, o, none⟩) 1 cap'])) :
  ∃ c0 c1 c2 c3, w.cell? ⟨b, o, none⟩ = some c0 ∧ w.cell? ⟨b, o + 1, none⟩ = some c1 ∧ w.cell? ⟨b, o + 2, none⟩ = some c2 ∧ w.cell? ⟨b, o + 3, none⟩ = some c3 ∧ PtAt n w pSub (.agg #[c0, c1, c2, c3]) := by
 unfold sub56 TmAt at h
 obtain ⟨kv, pv, he, h1, h2, h3⟩ := h
 rcases h3 with ⟨h3, -⟩ | ⟨b', o', cap'', rfl, -, -, -, h4⟩
 ·cases h3
 ·simp at he
  obtain ⟨-, ⟨rfl, rfl⟩, -⟩ := he
  unfold PtsAt at h4
  obtain ⟨⟨c0, c1, c2, c3, k0, k1, k2, k3, hp⟩, -⟩ := h4
  exact ⟨c0, c1, c2, c3, k0, k1, k2, k3, hp⟩
theorem nm_shape {n : Nat} {w : World} {s : ByteArray} {v : Value} (h : TmAt n w (nm56 s) v) : ∃ (a : Option Addr) (cap : Nat) (a' : Option Addr) (cap' : Nat), v = .agg #[.int .i64 4, .int .i64 0, .string s, .slice a 0 cap, .slice a' 0 cap'] := by
 obtain ⟨a, cap, a', cap', rfl, -⟩ := h.parts
 exact ⟨_, _, _, _, rfl⟩
theorem can_shape {n : Nat} {w : World} {v : Value} (h : TmAt n w (.mk 5 0 ⟨#[97]⟩ [nm56 ⟨#[97]⟩] []) v) : ∃ (a : Option Addr) (cap : Nat) (a' : Option Addr) (cap' : Nat), v = .agg #[.int .i64 5, .int .i64 0, .string ⟨#[97]⟩, .slice a 1 cap, .slice a' 0 cap'] := by
 obtain ⟨a, cap, a', cap', rfl, -⟩ := h.parts
 exact ⟨_, _, _, _, rfl⟩
theorem same_to {a b c d : ByteArray} {v v' : Value} (w : World) (hv : SlV w.heap.size v 2 fun x o => StrsAt w [a, b] x o) (hv' : SlV w.heap.size v' 2 fun x o => StrsAt w [c, d] x o) (hs : sameL [a, b] [c, d] = true) :
  Calls Tryz.prog 27 #[v, v'] w fun e w' => e = .returned (.bool true) ∧ Below w.heap.size w w' :=
 (SameNames_any [a, b] [c, d] v v' w hv hv' (by simp)).mono (by rintro e w' ⟨h, hb⟩; rw [hs] at h; exact ⟨h, hb⟩)
theorem pat_to (v : Value) (w : World) (hp : PtAt w.heap.size w pSub v) : Calls Tryz.prog 28 #[v] w fun e w' => (∃ v', e = .returned v' ∧ SlV w'.heap.size v' 2 fun b o => StrsAt w' [⟨#[101]⟩, ⟨#[102]⟩] b o) ∧ Below w.heap.size w w' :=
 (PatNames_any pSub v w hp (by unfold pSub; simp [lensP, lenssP]) (by rw [show patN pSub = [⟨#[101]⟩, ⟨#[102]⟩] by kernel_rfl]; decide)).mono (by
  rintro e w' ⟨⟨v', rfl, h⟩, hb⟩
  rw [show patN pSub = [⟨#[101]⟩, ⟨#[102]⟩] by kernel_rfl] at h
  exact ⟨⟨v', rfl, h.to (fun b h => h.2) fun _ _ h => h⟩, hb⟩)
theorem name_is (s : ByteArray) (w : World) (x : Bool) (h : nameB s = x) : Calls Tryz.prog 15 #[.string s] w fun e w' => e = .returned (.bool x) ∧ Below w.heap.size w w' := by subst h; exact Name_any s w
theorem great_is (s : ByteArray) (w : World) (x : Bool) (h : greatB s = x) : Calls Tryz.prog 17 #[.string s] w fun e w' => e = .returned (.bool x) ∧ Below w.heap.size w w' := by subst h; exact Great_any s w
set_option maxHeartbeats 8000000 in
set_option maxRecDepth 100000 in
theorem known_any (w : World) : Calls Tryz.prog 14 #[] w fun e w' => e = .returned (.bool true) ∧ Below w.heap.size w w' := by
 go_enter Tryz.func14, Tryz.ntmps14
 have HC := lh (E_any w)
 go_wp2_with fail
 refine HC.o.mono ?_
 rintro e w1 ⟨⟨e0, rfl, hn⟩, hb⟩
 clear HC
 have HB1 := lh (hb)
 have hs1 := hb.size
 have E_1 := lh hn
 clear hn
 clear hb
 have HC := lh (Free56 e0 w1 E_1.o)
 go_wp2_with fail
 refine HC.o.mono ?_
 rintro e w2 ⟨⟨lv, rfl, hn⟩, hb⟩
 clear HC
 have HB2 := lh (HB1.o.trans (hb.mono HB1.o.size))
 have hs2 := hb.size
 have L_2 := lh hn
 clear hn
 clear hb HB1
 have HC := lh (E_any w2)
 go_wp2_with fail
 refine HC.o.mono ?_
 rintro e w3 ⟨⟨e1, rfl, hn⟩, hb⟩
 clear HC
 have L_3 := lh (L_2.o.mono hb.size fun b o hlt hr => StrsAt.keep hb _ _ _ hlt hr)
 clear L_2
 have HB3 := lh (HB2.o.trans (hb.mono HB2.o.size))
 have hs3 := hb.size
 have E_4 := lh hn
 clear hn
 clear hb HB2
 have HC := lh (name_to ⟨#[98]⟩ (by decide) w3)
 go_wp2_with fail
 refine HC.o.mono ?_
 rintro e w4 ⟨⟨nb, rfl, hn⟩, hb⟩
 clear HC
 have L_5 := lh (L_3.o.mono hb.size fun b o hlt hr => StrsAt.keep hb _ _ _ hlt hr)
 clear L_3
 have E_6 := lh (TmAt.keep hb hb.size _ _ E_4.o)
 clear E_4
 have HB4 := lh (HB3.o.trans (hb.mono HB3.o.size))
 have hs4 := hb.size
 have NB_7 := lh hn
 clear hn
 clear hb HB3
 have HC := lh (name_to ⟨#[99]⟩ (by decide) w4)
 go_wp2_with fail
 refine HC.o.mono ?_
 rintro e w5 ⟨⟨nc, rfl, hn⟩, hb⟩
 clear HC
 have L_8 := lh (L_5.o.mono hb.size fun b o hlt hr => StrsAt.keep hb _ _ _ hlt hr)
 clear L_5
 have E_9 := lh (TmAt.keep hb hb.size _ _ E_6.o)
 clear E_6
 have NB_10 := lh (TmAt.keep hb hb.size _ _ NB_7.o)
 clear NB_7
 have HB5 := lh (HB4.o.trans (hb.mono HB4.o.size))
 have hs5 := hb.size
 have NC_11 := lh hn
 clear hn
 clear hb HB4
 have HC := lh (plus_any _ _ nb nc w5 NB_10.o NC_11.o)
 go_wp2_with fail
 refine HC.o.mono ?_
 rintro e w6 ⟨⟨bc, rfl, hn⟩, hb⟩
 clear HC
 have L_12 := lh (L_8.o.mono hb.size fun b o hlt hr => StrsAt.keep hb _ _ _ hlt hr)
 clear L_8
 have E_13 := lh (TmAt.keep hb hb.size _ _ E_9.o)
 clear E_9
 have HB6 := lh (HB5.o.trans (hb.mono HB5.o.size))
 have hs6 := hb.size
 have BC_14 := lh hn
 clear hn
 clear hb HB5
 have HC := lh (Subst56 e1 bc w6 E_13.o BC_14.o)
 go_wp2_with fail
 refine HC.o.mono ?_
 rintro e w7 ⟨⟨sv, rfl, hn⟩, hb⟩
 clear HC
 have L_15 := lh (L_12.o.mono hb.size fun b o hlt hr => StrsAt.keep hb _ _ _ hlt hr)
 clear L_12
 have HB7 := lh (HB6.o.trans (hb.mono HB6.o.size))
 have hs7 := hb.size
 have S_16 := lh hn
 clear hn
 clear hb HB6
 obtain ⟨sa, sc, sb, so, sk, rfl⟩ := sub_shape S_16.o
 go_upto_region 3 with fail
 have hb : Below w7.heap.size w7 (w7.alloc (.cells #[.int .i64 15, .int .i64 0, .string ⟨#[]⟩, .slice sa 2 sc, .slice (some ⟨sb, so, none⟩) 1 sk] 32)) := (Below.refl _ _).alloc (Nat.le_refl _) _
 have hn := heap_alloc_new w7 (.cells #[.int .i64 15, .int .i64 0, .string ⟨#[]⟩, .slice sa 2 sc, .slice (some ⟨sb, so, none⟩) 1 sk] 32)
 generalize hw : (w7.alloc (.cells #[.int .i64 15, .int .i64 0, .string ⟨#[]⟩, .slice sa 2 sc, .slice (some ⟨sb, so, none⟩) 1 sk] 32)) = w8 at *
 clear hw
 have L_17 := lh (L_15.o.mono hb.size fun b o hlt hr => StrsAt.keep hb _ _ _ hlt hr)
 clear L_15
 have S_18 := lh (TmAt.keep hb hb.size _ _ S_16.o)
 clear S_16
 have HB8 := lh (HB7.o.trans (hb.mono HB7.o.size))
 have hs8 := hb.size
 have SB_19 := lh hn
 clear hn hb HB7
 have HC := lh (E_any w8)
 go_wp2_with fail
 refine HC.o.mono ?_
 rintro e w9 ⟨⟨e2, rfl, hn⟩, hb⟩
 clear HC
 have L_20 := lh (L_17.o.mono hb.size fun b o hlt hr => StrsAt.keep hb _ _ _ hlt hr)
 clear L_17
 have S_21 := lh (TmAt.keep hb hb.size _ _ S_18.o)
 clear S_18
 have SB_22 := lh (bget' hb SB_19.o)
 clear SB_19
 have HB9 := lh (HB8.o.trans (hb.mono HB8.o.size))
 have hs9 := hb.size
 have E_23 := lh hn
 clear hn
 clear hb HB8
 have HC := lh (Nodes56 e2 w9 E_23.o)
 go_wp2_with fail
 refine HC.o.mono ?_
 rintro e w10 ⟨rfl, hb⟩
 clear HC
 have L_24 := lh (L_20.o.mono hb.size fun b o hlt hr => StrsAt.keep hb _ _ _ hlt hr)
 clear L_20
 have S_25 := lh (TmAt.keep hb hb.size _ _ S_21.o)
 clear S_21
 have SB_26 := lh (bget' hb SB_22.o)
 clear SB_22
 have HB10 := lh (HB9.o.trans (hb.mono HB9.o.size))
 have hs10 := hb.size
 clear hb HB9
 have HC := lh (E_any w10)
 go_wp2_with fail
 refine HC.o.mono ?_
 rintro e w11 ⟨⟨e3, rfl, hn⟩, hb⟩
 clear HC
 have L_27 := lh (L_24.o.mono hb.size fun b o hlt hr => StrsAt.keep hb _ _ _ hlt hr)
 clear L_24
 have S_28 := lh (TmAt.keep hb hb.size _ _ S_25.o)
 clear S_25
 have SB_29 := lh (bget' hb SB_26.o)
 clear SB_26
 have HB11 := lh (HB10.o.trans (hb.mono HB10.o.size))
 have hs11 := hb.size
 have E_30 := lh hn
 clear hn
 clear hb HB10
 have HC := lh (Depth56 e3 w11 E_30.o)
 go_wp2_with fail
 refine HC.o.mono ?_
 rintro e w12 ⟨rfl, hb⟩
 clear HC
 have L_31 := lh (L_27.o.mono hb.size fun b o hlt hr => StrsAt.keep hb _ _ _ hlt hr)
 clear L_27
 have S_32 := lh (TmAt.keep hb hb.size _ _ S_28.o)
 clear S_28
 have SB_33 := lh (bget' hb SB_29.o)
 clear SB_29
 have HB12 := lh (HB11.o.trans (hb.mono HB11.o.size))
 have hs12 := hb.size
 clear hb HB11
 have HC := lh (E_any w12)
 go_wp2_with fail
 refine HC.o.mono ?_
 rintro e w13 ⟨⟨e4, rfl, hn⟩, hb⟩
 clear HC
 have L_34 := lh (L_31.o.mono hb.size fun b o hlt hr => StrsAt.keep hb _ _ _ hlt hr)
 clear L_31
 have S_35 := lh (TmAt.keep hb hb.size _ _ S_32.o)
 clear S_32
 have SB_36 := lh (bget' hb SB_33.o)
 clear SB_33
 have HB13 := lh (HB12.o.trans (hb.mono HB12.o.size))
 have hs13 := hb.size
 have E_37 := lh hn
 clear hn
 clear hb HB12
 have hb0 : Below w13.heap.size w13 (w13.alloc (.cells #[.int .i64 1, .int .i64 0] 3)) := (Below.refl _ _).alloc (Nat.le_refl _) _
 have hn0 := heap_alloc_new w13 (.cells #[.int .i64 1, .int .i64 0] 3)
 have HC := lh (At56 e4 (.slice (some ⟨w13.heap.size, 0, none⟩) 2 2) (w13.alloc (.cells #[.int .i64 1, .int .i64 0] 3)) (TmAt.keep hb0 hb0.size _ _ E_37.o) (.inr ⟨w13.heap.size, 0, 2, rfl, Nat.le_refl _, by unfold maxLen; omega, lt_of_block hn0, cell_box hn0, cell_box hn0, trivial⟩))
 have HB0 := lh hb0
 clear hn0 hb0
 go_wp2_with fail
 refine HC.o.mono ?_
 rintro e w14 ⟨⟨av, rfl, hn⟩, hb1⟩
 have hb := HB0.o.trans (hb1.mono HB0.o.size)
 clear HC HB0 hb1
 have L_38 := lh (L_34.o.mono hb.size fun b o hlt hr => StrsAt.keep hb _ _ _ hlt hr)
 clear L_34
 have S_39 := lh (TmAt.keep hb hb.size _ _ S_35.o)
 clear S_35
 have SB_40 := lh (bget' hb SB_36.o)
 clear SB_36
 have HB14 := lh (HB13.o.trans (hb.mono HB13.o.size))
 have hs14 := hb.size
 have A_41 := lh hn
 clear hn hb HB13
 obtain ⟨aa, ac, ab, ak, rfl⟩ := nm_shape A_41.o
 go_upto_region 6 with fail
 have hb : Below w14.heap.size w14 (w14.alloc (.cells #[.int .i64 4, .int .i64 0, .string ⟨#[98]⟩, .slice aa 0 ac, .slice ab 0 ak] 32)) := (Below.refl _ _).alloc (Nat.le_refl _) _
 have hn := heap_alloc_new w14 (.cells #[.int .i64 4, .int .i64 0, .string ⟨#[98]⟩, .slice aa 0 ac, .slice ab 0 ak] 32)
 generalize hw : (w14.alloc (.cells #[.int .i64 4, .int .i64 0, .string ⟨#[98]⟩, .slice aa 0 ac, .slice ab 0 ak] 32)) = w15 at *
 clear hw
 have L_42 := lh (L_38.o.mono hb.size fun b o hlt hr => StrsAt.keep hb _ _ _ hlt hr)
 clear L_38
 have S_43 := lh (TmAt.keep hb hb.size _ _ S_39.o)
 clear S_39
 have SB_44 := lh (bget' hb SB_40.o)
 clear SB_40
 have A_45 := lh (TmAt.keep hb hb.size _ _ A_41.o)
 clear A_41
 have HB15 := lh (HB14.o.trans (hb.mono HB14.o.size))
 have hs15 := hb.size
 have AB_46 := lh hn
 clear hn hb HB14
 have HC := lh (name_to ⟨#[120]⟩ (by decide) w15)
 go_wp2_with fail
 refine HC.o.mono ?_
 rintro e w16 ⟨⟨nx, rfl, hn⟩, hb⟩
 clear HC
 have L_47 := lh (L_42.o.mono hb.size fun b o hlt hr => StrsAt.keep hb _ _ _ hlt hr)
 clear L_42
 have S_48 := lh (TmAt.keep hb hb.size _ _ S_43.o)
 clear S_43
 have SB_49 := lh (bget' hb SB_44.o)
 clear SB_44
 have A_50 := lh (TmAt.keep hb hb.size _ _ A_45.o)
 clear A_45
 have AB_51 := lh (bget' hb AB_46.o)
 clear AB_46
 have HB16 := lh (HB15.o.trans (hb.mono HB15.o.size))
 have hs16 := hb.size
 have N_52 := lh hn
 clear hn
 clear hb HB15
 obtain ⟨o17, n17, t17, ka17, kn17, kc17, pa17, pn17, pc17, rfl⟩ := TmAt.shape' N_52.o
 go_upto_region 7 with fail
 obtain ⟨hb, hx, hn⟩ := fun_at ⟨#[120]⟩ (by decide) w16 _ _ _ _ _ _ _ _ _ N_52.o _ rfl
 generalize hw : ((w16.alloc (.cells #[.int .i64 o17, .int .i64 n17, .string t17, .slice ka17 kn17 kc17, .slice pa17 pn17 pc17] 32)).alloc (.cells #[.int .i64 5, .int .i64 0, .string ⟨#[120]⟩, .slice (some ⟨w16.heap.size, 0, none⟩) 1 1, .slice none 0 0] 32)) = w17 at *
 clear hw
 have L_53 := lh (L_47.o.mono hb.size fun b o hlt hr => StrsAt.keep hb _ _ _ hlt hr)
 clear L_47
 have S_54 := lh (TmAt.keep hb hb.size _ _ S_48.o)
 clear S_48
 have SB_55 := lh (bget' hb SB_49.o)
 clear SB_49
 have A_56 := lh (TmAt.keep hb hb.size _ _ A_50.o)
 clear A_50
 have AB_57 := lh (bget' hb AB_51.o)
 clear AB_51
 have HB17 := lh (HB16.o.trans (hb.mono HB16.o.size))
 have hs17 := hb.size
 have T2_58 := lh hn
 have B2_59 := lh hx
 clear hn hx hb HB16
 have HC := lh (name_to ⟨#[121]⟩ (by decide) w17)
 go_wp2_with fail
 refine HC.o.mono ?_
 rintro e w18 ⟨⟨ny, rfl, hn⟩, hb⟩
 clear HC
 have L_60 := lh (L_53.o.mono hb.size fun b o hlt hr => StrsAt.keep hb _ _ _ hlt hr)
 clear L_53
 have S_61 := lh (TmAt.keep hb hb.size _ _ S_54.o)
 clear S_54
 have SB_62 := lh (bget' hb SB_55.o)
 clear SB_55
 have A_63 := lh (TmAt.keep hb hb.size _ _ A_56.o)
 clear A_56
 have AB_64 := lh (bget' hb AB_57.o)
 clear AB_57
 have T2_65 := lh (TmAt.keep hb hb.size _ _ T2_58.o)
 clear T2_58
 have B2_66 := lh (bget' hb B2_59.o)
 clear B2_59
 have HB18 := lh (HB17.o.trans (hb.mono HB17.o.size))
 have hs18 := hb.size
 have N_67 := lh hn
 clear hn
 clear hb HB17
 obtain ⟨o19, n19, t19, ka19, kn19, kc19, pa19, pn19, pc19, rfl⟩ := TmAt.shape' N_67.o
 go_upto_region 8 with fail
 obtain ⟨hb, hx, hn⟩ := fun_at ⟨#[121]⟩ (by decide) w18 _ _ _ _ _ _ _ _ _ N_67.o _ rfl
 generalize hw : ((w18.alloc (.cells #[.int .i64 o19, .int .i64 n19, .string t19, .slice ka19 kn19 kc19, .slice pa19 pn19 pc19] 32)).alloc (.cells #[.int .i64 5, .int .i64 0, .string ⟨#[121]⟩, .slice (some ⟨w18.heap.size, 0, none⟩) 1 1, .slice none 0 0] 32)) = w19 at *
 clear hw
 have L_68 := lh (L_60.o.mono hb.size fun b o hlt hr => StrsAt.keep hb _ _ _ hlt hr)
 clear L_60
 have S_69 := lh (TmAt.keep hb hb.size _ _ S_61.o)
 clear S_61
 have SB_70 := lh (bget' hb SB_62.o)
 clear SB_62
 have A_71 := lh (TmAt.keep hb hb.size _ _ A_63.o)
 clear A_63
 have AB_72 := lh (bget' hb AB_64.o)
 clear AB_64
 have T2_73 := lh (TmAt.keep hb hb.size _ _ T2_65.o)
 clear T2_65
 have B2_74 := lh (bget' hb B2_66.o)
 clear B2_66
 have HB19 := lh (HB18.o.trans (hb.mono HB18.o.size))
 have hs19 := hb.size
 have T1_75 := lh hn
 have B1_76 := lh hx
 clear hn hx hb HB18
 obtain ⟨p0, p1, p2, p3, p4⟩ := cells5 B1_76.o
 obtain ⟨q0, q1, q2, q3, q4⟩ := cells5 B2_74.o
 have HC := lh (Alike56 _ _ w19 T1_75.o T2_73.o)
 go_wp2_with fail
 refine HC.o.mono ?_
 rintro e w20 ⟨rfl, hb⟩
 clear HC
 have L_77 := lh (L_68.o.mono hb.size fun b o hlt hr => StrsAt.keep hb _ _ _ hlt hr)
 clear L_68
 have S_78 := lh (TmAt.keep hb hb.size _ _ S_69.o)
 clear S_69
 have SB_79 := lh (bget' hb SB_70.o)
 clear SB_70
 have A_80 := lh (TmAt.keep hb hb.size _ _ A_71.o)
 clear A_71
 have AB_81 := lh (bget' hb AB_72.o)
 clear AB_72
 have T2_82 := lh (TmAt.keep hb hb.size _ _ T2_73.o)
 clear T2_73
 have B2_83 := lh (bget' hb B2_74.o)
 clear B2_74
 have HB20 := lh (HB19.o.trans (hb.mono HB19.o.size))
 have hs20 := hb.size
 clear hb HB19
 clear p0 p1 p2 p3 p4 q0 q1 q2 q3 q4
 obtain ⟨q0, q1, q2, q3, q4⟩ := cells5 B2_83.o
 have HC := lh (Canon56 _ w20 T2_82.o)
 go_wp2_with fail
 refine HC.o.mono ?_
 rintro e w21 ⟨⟨cv, rfl, hn⟩, hb⟩
 clear HC
 have L_84 := lh (L_77.o.mono hb.size fun b o hlt hr => StrsAt.keep hb _ _ _ hlt hr)
 clear L_77
 have S_85 := lh (TmAt.keep hb hb.size _ _ S_78.o)
 clear S_78
 have SB_86 := lh (bget' hb SB_79.o)
 clear SB_79
 have A_87 := lh (TmAt.keep hb hb.size _ _ A_80.o)
 clear A_80
 have AB_88 := lh (bget' hb AB_81.o)
 clear AB_81
 have HB21 := lh (HB20.o.trans (hb.mono HB20.o.size))
 have hs21 := hb.size
 have C_89 := lh hn
 clear hn
 clear hb HB20
 clear q0 q1 q2 q3 q4
 obtain ⟨ca, cc, cb, ck, rfl⟩ := can_shape C_89.o
 go_upto_region 10 with fail
 have hb : Below w21.heap.size w21 (w21.alloc (.cells #[.int .i64 5, .int .i64 0, .string ⟨#[97]⟩, .slice ca 1 cc, .slice cb 0 ck] 32)) := (Below.refl _ _).alloc (Nat.le_refl _) _
 have hn := heap_alloc_new w21 (.cells #[.int .i64 5, .int .i64 0, .string ⟨#[97]⟩, .slice ca 1 cc, .slice cb 0 ck] 32)
 generalize hw : (w21.alloc (.cells #[.int .i64 5, .int .i64 0, .string ⟨#[97]⟩, .slice ca 1 cc, .slice cb 0 ck] 32)) = w22 at *
 clear hw
 have L_90 := lh (L_84.o.mono hb.size fun b o hlt hr => StrsAt.keep hb _ _ _ hlt hr)
 clear L_84
 have S_91 := lh (TmAt.keep hb hb.size _ _ S_85.o)
 clear S_85
 have SB_92 := lh (bget' hb SB_86.o)
 clear SB_86
 have A_93 := lh (TmAt.keep hb hb.size _ _ A_87.o)
 clear A_87
 have AB_94 := lh (bget' hb AB_88.o)
 clear AB_88
 have C_95 := lh (TmAt.keep hb hb.size _ _ C_89.o)
 clear C_89
 have HB22 := lh (HB21.o.trans (hb.mono HB21.o.size))
 have hs22 := hb.size
 have CB_96 := lh hn
 clear hn hb HB21
 obtain ⟨s0, s1, s2, s3, s4⟩ := cells5 SB_92.o
 go_upto_region 12 with fail
 clear s0 s1 s2 s3 s4
 have hb0 : Below w22.heap.size w22 (w22.alloc (.cells #[.string ⟨#[97]⟩, .string ⟨#[100]⟩] 9)) := (Below.refl _ _).alloc (Nat.le_refl _) _
 have hn0 := heap_alloc_new w22 (.cells #[.string ⟨#[97]⟩, .string ⟨#[100]⟩] 9)
 have HC := lh (same_to (w22.alloc (.cells #[.string ⟨#[97]⟩, .string ⟨#[100]⟩] 9)) (L_90.o.mono hb0.size fun b o hlt hr => StrsAt.keep hb0 _ _ _ hlt hr) (v' := (.slice (some ⟨w22.heap.size, 0, none⟩) 2 2)) (.inr ⟨w22.heap.size, 0, 2, rfl, Nat.le_refl _, by unfold maxLen; omega, lt_of_block hn0, ⟨cell_box hn0, by decide⟩, ⟨cell_box hn0, by decide⟩, trivial⟩) same56)
 have HB0 := lh hb0
 clear hn0 hb0
 go_wp2_with fail
 refine HC.o.mono ?_
 rintro e w23 ⟨rfl, hb1⟩
 have hb := HB0.o.trans (hb1.mono HB0.o.size)
 clear HC HB0 hb1
 have S_97 := lh (TmAt.keep hb hb.size _ _ S_91.o)
 clear S_91
 have SB_98 := lh (bget' hb SB_92.o)
 clear SB_92
 have A_99 := lh (TmAt.keep hb hb.size _ _ A_93.o)
 clear A_93
 have AB_100 := lh (bget' hb AB_94.o)
 clear AB_94
 have C_101 := lh (TmAt.keep hb hb.size _ _ C_95.o)
 clear C_95
 have CB_102 := lh (bget' hb CB_96.o)
 clear CB_96
 have HB23 := lh (HB22.o.trans (hb.mono HB22.o.size))
 have hs23 := hb.size
 clear hb HB22
 obtain ⟨s0, s1, s2, s3, s4⟩ := cells5 SB_98.o
 obtain ⟨c0, c1, c2, c3, k0, k1, k2, k3, hp⟩ := sub_pats S_97.o
 have HC := lh (pat_to _ w23 hp)
 go_wp2_with fail
 refine HC.o.mono ?_
 rintro e w24 ⟨⟨pv, rfl, hn⟩, hb⟩
 clear HC
 have A_103 := lh (TmAt.keep hb hb.size _ _ A_99.o)
 clear A_99
 have AB_104 := lh (bget' hb AB_100.o)
 clear AB_100
 have C_105 := lh (TmAt.keep hb hb.size _ _ C_101.o)
 clear C_101
 have CB_106 := lh (bget' hb CB_102.o)
 clear CB_102
 have HB24 := lh (HB23.o.trans (hb.mono HB23.o.size))
 have hs24 := hb.size
 have P_107 := lh hn
 clear hn
 clear hb HB23
 clear s0 s1 s2 s3 s4 k0 k1 k2 k3 hp
 have hb0 : Below w24.heap.size w24 (w24.alloc (.cells #[.string ⟨#[101]⟩, .string ⟨#[102]⟩] 9)) := (Below.refl _ _).alloc (Nat.le_refl _) _
 have hn0 := heap_alloc_new w24 (.cells #[.string ⟨#[101]⟩, .string ⟨#[102]⟩] 9)
 have HC := lh (same_to (w24.alloc (.cells #[.string ⟨#[101]⟩, .string ⟨#[102]⟩] 9)) (P_107.o.mono hb0.size fun b o hlt hr => StrsAt.keep hb0 _ _ _ hlt hr) (v' := (.slice (some ⟨w24.heap.size, 0, none⟩) 2 2)) (.inr ⟨w24.heap.size, 0, 2, rfl, Nat.le_refl _, by unfold maxLen; omega, lt_of_block hn0, ⟨cell_box hn0, by decide⟩, ⟨cell_box hn0, by decide⟩, trivial⟩) same56')
 have HB0 := lh hb0
 clear hn0 hb0
 go_wp2_with fail
 refine HC.o.mono ?_
 rintro e w25 ⟨rfl, hb1⟩
 have hb := HB0.o.trans (hb1.mono HB0.o.size)
 clear HC HB0 hb1
 have A_108 := lh (TmAt.keep hb hb.size _ _ A_103.o)
 clear A_103
 have AB_109 := lh (bget' hb AB_104.o)
 clear AB_104
 have C_110 := lh (TmAt.keep hb hb.size _ _ C_105.o)
 clear C_105
 have CB_111 := lh (bget' hb CB_106.o)
 clear CB_106
 have HB25 := lh (HB24.o.trans (hb.mono HB24.o.size))
 have hs25 := hb.size
 clear hb HB24
 obtain ⟨s0, s1, s2, s3, s4⟩ := cells5 AB_109.o
 obtain ⟨q0, q1, q2, q3, q4⟩ := cells5 CB_111.o
 have HC := lh (name_is ⟨#[97, 98, 99]⟩ w25 true names56.1)
 go_wp2_with fail
 refine HC.o.mono ?_
 rintro e w26 ⟨rfl, hb⟩
 clear HC
 have A_112 := lh (TmAt.keep hb hb.size _ _ A_108.o)
 clear A_108
 have C_113 := lh (TmAt.keep hb hb.size _ _ C_110.o)
 clear C_110
 have HB26 := lh (HB25.o.trans (hb.mono HB25.o.size))
 have hs26 := hb.size
 clear hb HB25
 clear s0 s1 s2 s3 s4 q0 q1 q2 q3 q4
 have HC := lh (name_is ⟨#[116, 104, 101, 110]⟩ w26 false names56.2.1)
 go_wp2_with fail
 refine HC.o.mono ?_
 rintro e w27 ⟨rfl, hb⟩
 clear HC
 have A_114 := lh (TmAt.keep hb hb.size _ _ A_112.o)
 clear A_112
 have C_115 := lh (TmAt.keep hb hb.size _ _ C_113.o)
 clear C_113
 have HB27 := lh (HB26.o.trans (hb.mono HB26.o.size))
 have hs27 := hb.size
 clear hb HB26
 have HC := lh (great_is ⟨#[65]⟩ w27 true names56.2.2.1)
 go_wp2_with fail
 refine HC.o.mono ?_
 rintro e w28 ⟨rfl, hb⟩
 clear HC
 have A_116 := lh (TmAt.keep hb hb.size _ _ A_114.o)
 clear A_114
 have C_117 := lh (TmAt.keep hb hb.size _ _ C_115.o)
 clear C_115
 have HB28 := lh (HB27.o.trans (hb.mono HB27.o.size))
 have hs28 := hb.size
 clear hb HB27
 have hb0 : Below w28.heap.size w28 (w28.alloc (.cells #[.string ⟨#[97]⟩, .string ⟨#[99]⟩] 9)) := (Below.refl _ _).alloc (Nat.le_refl _) _
 have hn0 := heap_alloc_new w28 (.cells #[.string ⟨#[97]⟩, .string ⟨#[99]⟩] 9)
 have HC := lh (Fresh56 (.slice (some ⟨w28.heap.size, 0, none⟩) 2 2) (w28.alloc (.cells #[.string ⟨#[97]⟩, .string ⟨#[99]⟩] 9)) (.inr ⟨w28.heap.size, 0, 2, rfl, Nat.le_refl _, by unfold maxLen; omega, lt_of_block hn0, ⟨cell_box hn0, by decide⟩, ⟨cell_box hn0, by decide⟩, trivial⟩))
 have HB0 := lh hb0
 clear hn0 hb0
 go_wp2_with fail
 refine HC.o.mono ?_
 rintro e w29 ⟨rfl, hb1⟩
 have hb := HB0.o.trans (hb1.mono HB0.o.size)
 clear HC HB0 hb1
 have A_118 := lh (TmAt.keep hb hb.size _ _ A_116.o)
 clear A_116
 have C_119 := lh (TmAt.keep hb hb.size _ _ C_117.o)
 clear C_117
 have HB29 := lh (HB28.o.trans (hb.mono HB28.o.size))
 have hs29 := hb.size
 clear hb HB28
 go_wp2
 go_ret
 exact ⟨rfl, HB29.o⟩
theorem hasB_bytes (s : ByteArray) : ∀ ks : List (List UInt8), hasB (ks.map bytesOf) s = ks.any fun k => s.toList == k
 | [] => rfl
 | k :: ks => by
  have ih := hasB_bytes s ks
  unfold hasB at ih ⊢
  rw [List.map_cons, List.any_cons, List.any_cons, ih, bytesOf_toList, Bool.beq_comm]
theorem hasB_key (s : ByteArray) : hasB (keyL.map bytesOf) s = keyB s := hasB_bytes s keyL
set_option maxHeartbeats 1000000 in
theorem Key_any (s : ByteArray) (w : World) :
  Calls Tryz.prog 62 #[.string s] w fun e w' => e = .returned (.bool (keyB s)) ∧ Below w.heap.size w w' := by
 go_enter Tryz.func62, Tryz.ntmps62
 go_wp2_with fail
 refine (keywords_any _).mono ?_
 rintro e w1 ⟨⟨v, rfl, hv⟩, hb1⟩
 have HB1 := lh hb1
 have HC := lh (Has_any _ v s w1 hv)
 clear hb1 hv
 go_wp2_with fail
 refine HC.o.mono ?_
 rintro e w2 ⟨rfl, hb2⟩
 go_wp2
 go_ret
 exact ⟨ret_bool (hasB_key s), HB1.o.trans (hb2.mono HB1.o.size)⟩
set_option maxHeartbeats 1000000 in
theorem refName_any (s : ByteArray) (w : World) (hs : s.size ≤ maxLen) :
  Calls Tryz.prog 16 #[.string s] w fun e w' => e = .returned (.bool (nameB s)) ∧ Below w.heap.size w w' := by
 by_cases h1 : 1 ≤ s.size
 ·by_cases h2 : s.size ≤ 8
  ·cases h3 : smallB s
   ·have hn : nameB s = false := by simp [nameB, h3]
    have HN := lh hn; clear hn
    go_enter Tryz.func16, Tryz.ntmps16
    go_wp2_with fail
    refine (refsmall_any _ _ hs).mono ?_
    rintro e w1 ⟨rfl, hb1⟩
    go_wp2
    go_ret
    exact ⟨ret_bool HN.o.symm, hb1⟩
   ·have hn : nameB s = !keyB s := by simp [nameB, h3, h1, h2]
    have HN := lh hn; clear hn
    go_enter Tryz.func16, Tryz.ntmps16
    go_wp2_with fail
    refine (refsmall_any _ _ hs).mono ?_
    rintro e w1 ⟨rfl, hb1⟩
    go_wp2_with fail
    refine (Key_any _ _).mono ?_
    rintro e w2 ⟨rfl, hb2⟩
    go_wp2
    go_ret
    exact ⟨ret_bool HN.o.symm, hb1.trans (hb2.mono hb1.size)⟩
  ·have hn : nameB s = false := by simp [nameB, h2]
   have HN := lh hn; clear hn
   go_enter Tryz.func16, Tryz.ntmps16
   go_wp2
   go_ret
   exact ⟨ret_bool HN.o.symm, Below.refl _ _⟩
 ·have hn : nameB s = false := by simp [nameB, h1]
  have HN := lh hn; clear hn
  go_enter Tryz.func16, Tryz.ntmps16
  go_wp2
  go_ret
  exact ⟨ret_bool HN.o.symm, Below.refl _ _⟩
set_option maxHeartbeats 1000000 in
theorem refGreat_any (s : ByteArray) (w : World) (hs : s.size ≤ maxLen) :
  Calls Tryz.prog 18 #[.string s] w fun e w' => e = .returned (.bool (greatB s)) ∧ Below w.heap.size w w' := by
 by_cases h1 : 1 ≤ s.size
 ·by_cases h2 : s.size ≤ 8
  ·have h0 : 0 < s.size := h1
   have hf := firstB_get s h0
   by_cases h3 : (65 : Int) ≤ (s[0].toNat : Int)
   ·by_cases h4 : (s[0].toNat : Int) ≤ 90
    ·have hn : greatB s = smallL (s.toList.drop 1) := by simp [greatB, hf, h3, h4, h1, h2]
     have HN := lh hn; clear hn hf
     have HC := fun w => lh (refsmall_any (s.extract 1 s.size) w (by simp; omega))
     go_enter Tryz.func18, Tryz.ntmps18
     go_wp2_with fail
     refine (HC _).o.mono ?_
     rintro e w1 ⟨rfl, hb1⟩
     go_wp2
     go_ret
     exact ⟨ret_bool (by rw [HN.o, smallB, extract_toList]), hb1⟩
    ·have hn : greatB s = false := by simp [greatB, hf, h3, h4, h1, h2]
     have HN := lh hn; clear hn hf
     go_enter Tryz.func18, Tryz.ntmps18
     go_wp2
     go_ret
     exact ⟨ret_bool HN.o.symm, Below.refl _ _⟩
   ·have hn : greatB s = false := by simp [greatB, hf, h3]
    have HN := lh hn; clear hn hf
    go_enter Tryz.func18, Tryz.ntmps18
    go_wp2
    go_ret
    exact ⟨ret_bool HN.o.symm, Below.refl _ _⟩
  ·have hn : greatB s = false := by simp [greatB, h2]
   have HN := lh hn; clear hn
   go_enter Tryz.func18, Tryz.ntmps18
   go_wp2
   go_ret
   exact ⟨ret_bool HN.o.symm, Below.refl _ _⟩
 ·have hn : greatB s = false := by simp [greatB, h1]
  have HN := lh hn; clear hn
  go_enter Tryz.func18, Tryz.ntmps18
  go_wp2
  go_ret
  exact ⟨ret_bool HN.o.symm, Below.refl _ _⟩
def lettersL : Nat → Nat → List UInt8
 | 0, _ => []
 | f + 1, n => if n < 26 then [UInt8.ofNat (97 + n)] else lettersL f (n / 26 - 1) ++ [UInt8.ofNat (97 + n % 26)]
theorem lettersL_fuel : ∀ (f n : Nat), n < f → ∀ g, n < g → lettersL f n = lettersL g n
 | 0, n, h, _, _ => absurd h (Nat.not_lt_zero _)
 | f + 1, n, h, 0, h' => absurd h' (Nat.not_lt_zero _)
 | f + 1, n, h, g + 1, h' => by
  unfold lettersL
  split
  ·rfl
  ·rw [lettersL_fuel f (n / 26 - 1) (by omega) g (by omega)]
def lettersN (n : Nat) : List UInt8 := lettersL (n + 1) n
theorem lettersN_small {n : Nat} (h : n < 26) : lettersN n = [UInt8.ofNat (97 + n)] := by
 unfold lettersN lettersL; rw [if_pos h]
theorem lettersN_great {n : Nat} (h : ¬ n < 26) : lettersN n = lettersN (n / 26 - 1) ++ [UInt8.ofNat (97 + n % 26)] := by
 unfold lettersN
 conv => lhs; unfold lettersL
 rw [if_neg h, lettersL_fuel n (n / 26 - 1) (by omega) (n / 26 - 1 + 1) (by omega)]
theorem word_letters : ∀ (s k : Nat), k < 26 ^ (s + 1) → lettersN ((26 ^ (s + 1) - 26) / 25 + k) = letters (dig (s + 1) k)
 | 0, k, h => by
  have h' : k < 26 := by simpa using h
  rw [show (26 ^ (0 + 1) - 26) / 25 + k = k by simp, lettersN_small h']
  simp [letters, dig, Nat.mod_eq_of_lt h']
 | s + 1, k, h => by
  have hp : 26 ^ (s + 1 + 1) = 26 * 26 ^ (s + 1) := by rw [Nat.pow_succ, Nat.mul_comm]
  have hq : 26 ^ (s + 1) = 26 * 26 ^ s := by rw [Nat.pow_succ, Nat.mul_comm]
  have h1 : 1 ≤ 26 ^ s := Nat.pow_pos (by decide)
  have hm : (26 ^ s - 1) % 25 = 0 := by
   have : ∀ t : Nat, 26 ^ t % 25 = 1 := by
    intro t
    induction t with
    | zero => rfl
    | succ t ih => rw [Nat.pow_succ]; omega
   have := this s
   omega
  rw [lettersN_great (by omega)]
  have e1 : ((26 ^ (s + 1 + 1) - 26) / 25 + k) / 26 - 1 = (26 ^ (s + 1) - 26) / 25 + k / 26 := by omega
  have e2 : ((26 ^ (s + 1 + 1) - 26) / 25 + k) % 26 = k % 26 := by omega
  rw [e1, e2, word_letters s (k / 26) (by omega)]
  show letters (dig (s + 1) (k / 26)) ++ _ = letters (dig (s + 1) (k / 26) ++ [k % 26])
  simp [letters]
def lettersB (n : Nat) : ByteArray := ⟨(lettersN n).toArray⟩
def letterC (d : Nat) : UInt8 := UInt8.ofNat (97 + d)
theorem conv_letter (W : World) (b d : Nat) (hd : d < 26) (hc : W.cell? ⟨b, 0, none⟩ = some (.int .u8 (97 + (d : Int)))) :
  (convert 136 9 (.slice (some ⟨b, 0, none⟩) 1 1)).run Tryz.prog W = .ok (.string ⟨#[letterC d]⟩) W := by
 refine run_convert_bytes_back (P := Tryz.prog) W 136 9 5 ⟨b, 0, none⟩ 1 [letterC d] Tz.underlying136 (by kernel_rfl) Tryz.underlying9 fun j hj => ?_
 obtain rfl : j = 0 := by simpa using hj
 have h2 : (letterC d).toNat = 97 + d := by unfold letterC; rw [UInt8.toNat_ofNat']; omega
 show W.cell? ⟨b, 0, none⟩ = some (.int .u8 ((letterC d).toNat : Int))
 rw [hc, h2]
 simp
set_option maxHeartbeats 1000000 in
set_option maxRecDepth 10000 in
theorem letters_small (n : Nat) (w : World) (h : n < 26) :
  Calls Tryz.prog 65 #[.int .i64 n] w fun e w' => e = .returned (.string (lettersB n)) ∧ Below w.heap.size w w' := by
 have hcv := conv_letter (w.alloc (.cells #[.int .u8 (97 + (n : Int))] 5)) w.heap.size n h (cell_box (heap_alloc_new _ _))
 have hr : lettersB n = ⟨#[letterC n]⟩ := by unfold lettersB; rw [lettersN_small h]; rfl
 have HR := lh hr
 clear hr
 go_enter Tryz.func65, Tryz.ntmps65
 go_wp2_with fail
 go_wp2
 go_ret
 exact ⟨by rw [HR.o]; rfl, (Below.refl _ _).alloc (Nat.le_refl _) _⟩
def r65x0 : Oper := { dst := some 10, op := Op.move (Operand.tmp 0), type := 3, pos := "ref.go:66", after := #[], guard := none }
def r65x1 : Oper := { dst := some 11, op := Op.binOp BinOp.quo 3 (Operand.tmp 10) (Operand.const (Value.int IntKind.i64 26)) 3, type := 3, pos := "ref.go:66", after := #[{ on := 0, ground := Ground.data }], guard := none }
def r65x2 : Oper := { dst := some 12, op := Op.binOp BinOp.sub 3 (Operand.tmp 11) (Operand.const (Value.int IntKind.i64 1)) 3, type := 3, pos := "ref.go:66", after := #[{ on := 1, ground := Ground.data }], guard := none }
def r65x3 : Oper := { dst := some 13, op := Op.call { callee := Callee.value (Operand.func 65), args := #[Operand.tmp 12], argTypes := #[3] }, type := 9, pos := "ref.go:66", after := #[{ on := 2, ground := Ground.data }], guard := none }
def r65x4 : Oper := { dst := some 14, op := Op.move (Operand.tmp 0), type := 3, pos := "ref.go:66", after := #[], guard := none }
def r65x5 : Oper := { dst := some 15, op := Op.binOp BinOp.rem 3 (Operand.tmp 14) (Operand.const (Value.int IntKind.i64 26)) 3, type := 3, pos := "ref.go:66", after := #[{ on := 4, ground := Ground.data }], guard := none }
def r65x6 : Oper := { dst := some 16, op := Op.binOp BinOp.add 3 (Operand.const (Value.int IntKind.i64 97)) (Operand.tmp 15) 3, type := 3, pos := "ref.go:66", after := #[{ on := 5, ground := Ground.data }], guard := none }
def r65x7 : Oper := { dst := some 17, op := Op.convert 3 5 (Operand.tmp 16), type := 5, pos := "ref.go:66", after := #[{ on := 6, ground := Ground.data }], guard := none }
def r65x8 : Oper := { dst := some 18, op := Op.buildSlice 136 1 #[(0, Operand.tmp 17)], type := 136, pos := "ref.go:66", after := #[{ on := 7, ground := Ground.data }], guard := none }
def r65x9 : Oper := { dst := some 19, op := Op.convert 136 9 (Operand.tmp 18), type := 9, pos := "ref.go:66", after := #[{ on := 8, ground := Ground.data }], guard := none }
def r65x10 : Oper := { dst := some 20, op := Op.binOp BinOp.add 9 (Operand.tmp 13) (Operand.tmp 19) 9, type := 9, pos := "ref.go:66", after := #[{ on := 3, ground := Ground.data }, { on := 9, ground := Ground.data }], guard := none }
def r65x11 : Oper := { dst := some 2, op := Op.assign (Operand.tmp 20), type := 9, pos := "ref.go:66", after := #[{ on := 10, ground := Ground.data }, { on := 3, ground := Ground.chain }, { on := 0, ground := Ground.phase }, { on := 1, ground := Ground.phase }, { on := 2, ground := Ground.phase }, { on := 3, ground := Ground.phase }, { on := 4, ground := Ground.phase }, { on := 5, ground := Ground.phase }, { on := 6, ground := Ground.phase }, { on := 7, ground := Ground.phase }, { on := 8, ground := Ground.phase }, { on := 9, ground := Ground.phase }, { on := 10, ground := Ground.phase }], guard := none }
def ops65 : Array Oper := #[r65x0, r65x1, r65x2, r65x3, r65x4, r65x5, r65x6, r65x7, r65x8, r65x9, r65x10, r65x11]
attribute [local go_sem] r65x0 r65x1 r65x2 r65x3 r65x4 r65x5 r65x6 r65x7 r65x8 r65x9 r65x10 r65x11
def dst65 (i : Nat) : Nat := [10, 11, 12, 13, 14, 15, 16, 17, 18, 19, 20].getD i 0
theorem dst65_eq : ∀ i, i < 11 → (ops65[i]?.bind (·.dst)) = some (dst65 i) := by
 intro i hi
 have h : i = 0 ∨ i = 1 ∨ i = 2 ∨ i = 3 ∨ i = 4 ∨ i = 5 ∨ i = 6 ∨ i = 7 ∨ i = 8 ∨ i = 9 ∨ i = 10 := by omega
 rcases h with rfl | rfl | rfl | rfl | rfl | rfl | rfl | rfl | rfl | rfl | rfl <;> rfl
theorem dst65_inj : ∀ i j, i < 11 → j < 11 → i ≠ j → dst65 i ≠ dst65 j := by
 have h : ∀ i, i < 11 → dst65 i = 10 + i := by
  intro i hi
  have h : i = 0 ∨ i = 1 ∨ i = 2 ∨ i = 3 ∨ i = 4 ∨ i = 5 ∨ i = 6 ∨ i = 7 ∨ i = 8 ∨ i = 9 ∨ i = 10 := by omega
  rcases h with rfl | rfl | rfl | rfl | rfl | rfl | rfl | rfl | rfl | rfl | rfl <;> rfl
 intro i j hi hj hij
 rw [h i hi, h j hj]
 omega
section
variable (U : World) (n : Nat)
def B65 (d0 : List Deferred) (a : Act) (w : World) : Prop := a.tmps.size = 21 ∧ a.defers = d0 ∧ a.tmps[0]? = some (.int .i64 n) ∧ Below U.heap.size U w
def F65 (j : Nat) (a : Act) (w : World) : Prop :=
 match j with
 | 0 => a.tmps[10]? = some (.int .i64 n)
 | 1 => a.tmps[11]? = some (.int .i64 ((n : Int) / 26))
 | 2 => a.tmps[12]? = some (.int .i64 ((n : Int) / 26 - 1))
 | 3 => a.tmps[13]? = some (.string (lettersB (n / 26 - 1)))
 | 4 => a.tmps[14]? = some (.int .i64 n)
 | 5 => a.tmps[15]? = some (.int .i64 ((n : Int) % 26))
 | 6 => a.tmps[16]? = some (.int .i64 (97 + (n : Int) % 26))
 | 7 => a.tmps[17]? = some (.int .u8 (97 + (n : Int) % 26))
 | 8 => ∃ b, a.tmps[18]? = some (.slice (some ⟨b, 0, none⟩) 1 1) ∧ w.heap[b]? = some (.cells #[.int .u8 (97 + (n : Int) % 26)] 5 (0, 0))
 | 9 => a.tmps[19]? = some (.string ⟨#[letterC (n % 26)]⟩)
 | _ => a.tmps[20]? = some (.string (lettersB n))
theorem F65_stab (i j : Nat) (a : Act) (w : World) (a' : Act) (w' : World) (hij : i ≠ j) (hi : i < 11) (hj : j < 11) (h : F65 n j a w) (hx : Ext ops65 i a w a' w') : F65 n j a' w' := by
 obtain ⟨⟨o, d, v, ho, hd, rfl⟩, hb⟩ := hx
 have he := dst65_eq i hi
 rw [ho] at he
 have hd' : d = dst65 i := by simp [hd] at he; exact he
 have hne : d ≠ dst65 j := by rw [hd']; exact dst65_inj i j hi hj hij
 have hjj : j = 0 ∨ j = 1 ∨ j = 2 ∨ j = 3 ∨ j = 4 ∨ j = 5 ∨ j = 6 ∨ j = 7 ∨ j = 8 ∨ j = 9 ∨ j = 10 := by omega
 rcases hjj with rfl | rfl | rfl | rfl | rfl | rfl | rfl | rfl | rfl | rfl | rfl
 ·exact (put_get hne).trans h
 ·exact (put_get hne).trans h
 ·exact (put_get hne).trans h
 ·exact (put_get hne).trans h
 ·exact (put_get hne).trans h
 ·exact (put_get hne).trans h
 ·exact (put_get hne).trans h
 ·exact (put_get hne).trans h
 ·obtain ⟨b, h1, h2⟩ := h; exact ⟨b, (put_get hne).trans h1, bget' hb h2⟩
 ·exact (put_get hne).trans h
 ·exact (put_get hne).trans h
theorem B65_put {d0 : List Deferred} {a : Act} {w w' : World} (d : Nat) (v : Value) (h : B65 U n d0 a w) (h2 : d ≠ 0) (hb : Below w.heap.size w w') : B65 U n d0 (a.put (some d) v) w' := by
 obtain ⟨g1, g2, g3, g5⟩ := h
 exact ⟨by simp [Act.put]; exact g1, g2, (put_get h2).trans g3, g5.trans (hb.mono g5.size)⟩
end
theorem lettersL_len : ∀ f n, (lettersL f n).length ≤ n + 1
 | 0, _ => Nat.zero_le _
 | f + 1, n => by
  unfold lettersL
  split
  ·simp
  ·have := lettersL_len f (n / 26 - 1)
   simp
   omega
theorem lettersB_size (n : Nat) : (lettersB n).size ≤ n + 1 := lettersL_len _ _
theorem waits65 (j : Nat) (hj : j < 11) : waitsB .any ops65 11 j = true := by
 have h : (List.range 11).all (fun j => waitsB .any ops65 11 j) = true := by kernel_rfl
 exact List.all_eq_true.1 h j (List.mem_range.2 hj)
set_option maxHeartbeats 4000000 in
set_option maxRecDepth 100000 in
theorem reg65 {Q : Exit → Act → World → Prop} {a : Act} {U : World} {n : Nat}
  (hsz : a.tmps.size = 21) (h0 : a.tmps[0]? = some (.int .i64 n)) (hn : n < 2 ^ 40) (h26 : ¬ n < 26)
  (hc : ∀ w, Calls Tryz.prog 65 #[.int .i64 (n / 26 - 1 : Nat)] w fun e w' => e = .returned (.string (lettersB (n / 26 - 1))) ∧ Below w.heap.size w w')
  (hK : ∀ (a' : Act) (w' : World), a'.tmps.size = 21 → a'.defers = a.defers → a'.tmps[2]? = some (.string (lettersB n)) → Below U.heap.size U w' → Q .normal a' w') :
  (Code.region 3 ops65 true).wp Tryz.prog Q a U := by
 have hr : lettersB n = ⟨(lettersB (n / 26 - 1)).data ++ #[letterC (n % 26)]⟩ := by unfold lettersB letterC; rw [lettersN_great h26]; simp
 have e1 : Int.tdiv (n : Int) 26 = (n : Int) / 26 := by rw [Int.tdiv_eq_ediv_of_nonneg (by omega)]
 have e2 : Int.tmod (n : Int) 26 = (n : Int) % 26 := by rw [Int.tmod_eq_emod_of_nonneg (by omega)]
 have e3 : (n : Int) / 26 - 1 = ((n / 26 - 1 : Nat) : Int) := by omega
 have e4 : ((n % 26 : Nat) : Int) = (n : Int) % 26 := by omega
 have w1 : IntKind.i64.wrap ((n : Int) / 26) = (n : Int) / 26 := by rw [IntKind.wrap_i64]; omega
 have w2 : IntKind.i64.wrap ((n : Int) / 26 - 1) = (n : Int) / 26 - 1 := by rw [IntKind.wrap_i64]; omega
 have w3 : IntKind.i64.wrap ((n : Int) % 26) = (n : Int) % 26 := by rw [IntKind.wrap_i64]; omega
 have w4 : IntKind.i64.wrap (97 + (n : Int) % 26) = 97 + (n : Int) % 26 := by rw [IntKind.wrap_i64]; omega
 have w5 : IntKind.u8.wrap (97 + (n : Int) % 26) = 97 + (n : Int) % 26 := by rw [IntKind.wrap_u8]; omega
 rw [← e3] at hc
 have hsz1 : ¬ 9223372036854775807 < (lettersB (n / 26 - 1)).size + 1 := by have := lettersB_size (n / 26 - 1); omega
 have hl : n % 26 < 26 := Nat.mod_lt _ (by decide)
 have HR := lh hr; have HC := lh hc; have HK := lh hK; have HH0 := lh h0; have HSZ := lh hsz
 clear hr hc hK h0 hsz e3
 refine wp_region_any (by kernel_rfl) ?_
 refine wpAny_inv (by kernel_rfl) 11 ?hz rfl (F65 n) (B65 U n a.defers) (Ext ops65) ?hstep (fun i j a w a' w' h1 h2 h3 hB h5 h6 => F65_stab n i j a w a' w' h1 h2 h3 h5 h6) ?hlast _ (List.range 12) _ a _ (by decide) (by decide) ?hu (by decide) ?hB ?hF
 case hz => exact fun j hj => waits65 j hj
 case hu => exact fun j hj => List.mem_range.2 (rep_true hj)
 case hB => exact ⟨HSZ.o, rfl, HH0.o, below_drew _ _⟩
 case hF => exact fun j hj => (rep_false hj).elim
 case hstep =>
  intro i a1 w1 hi hB hF
  obtain ⟨hsz, -, g0, hbw⟩ := id hB
  have g0' := tmp_get g0 (by omega)
  have h : i = 0 ∨ i = 1 ∨ i = 2 ∨ i = 3 ∨ i = 4 ∨ i = 5 ∨ i = 6 ∨ i = 7 ∨ i = 8 ∨ i = 9 ∨ i = 10 := by omega
  rcases h with rfl | rfl | rfl | rfl | rfl | rfl | rfl | rfl | rfl | rfl | rfl
  ·refine wpOp_step (o := r65x0) rfl fun KK hKK => ?_
   go_simp
   exact hKK _ _ ⟨B65_put _ _ 10 _ hB (by decide) (Below.refl _ _), put_same (by omega), ⟨_, 10, _, rfl, rfl, rfl⟩, Below.refl _ _⟩
  ·refine wpOp_step (o := r65x1) rfl fun KK hKK => ?_
   have g10 := tmp_get (hF 0 (by kernel_rfl)) (by omega)
   go_simp
   exact hKK _ _ ⟨B65_put _ _ 11 _ hB (by decide) (Below.refl _ _), put_same (by omega), ⟨_, 11, _, rfl, rfl, rfl⟩, Below.refl _ _⟩
  ·refine wpOp_step (o := r65x2) rfl fun KK hKK => ?_
   have g11 := tmp_get (hF 1 (by kernel_rfl)) (by omega)
   go_simp
   exact hKK _ _ ⟨B65_put _ _ 12 _ hB (by decide) (Below.refl _ _), put_same (by omega), ⟨_, 12, _, rfl, rfl, rfl⟩, Below.refl _ _⟩
  ·refine wpOp_step (o := r65x3) rfl fun KK hKK => ?_
   have g12 := tmp_get (hF 2 (by kernel_rfl)) (by omega)
   go_simp
   refine (HC.o w1).mono ?_
   rintro e w2 ⟨rfl, hb2⟩
   exact hKK _ _ ⟨B65_put _ _ 13 _ hB (by decide) hb2, put_same (by omega), ⟨_, 13, _, rfl, rfl, rfl⟩, hb2⟩
  ·refine wpOp_step (o := r65x4) rfl fun KK hKK => ?_
   go_simp
   exact hKK _ _ ⟨B65_put _ _ 14 _ hB (by decide) (Below.refl _ _), put_same (by omega), ⟨_, 14, _, rfl, rfl, rfl⟩, Below.refl _ _⟩
  ·refine wpOp_step (o := r65x5) rfl fun KK hKK => ?_
   have g14 := tmp_get (hF 4 (by kernel_rfl)) (by omega)
   go_simp
   exact hKK _ _ ⟨B65_put _ _ 15 _ hB (by decide) (Below.refl _ _), put_same (by omega), ⟨_, 15, _, rfl, rfl, rfl⟩, Below.refl _ _⟩
  ·refine wpOp_step (o := r65x6) rfl fun KK hKK => ?_
   have g15 := tmp_get (hF 5 (by kernel_rfl)) (by omega)
   go_simp
   exact hKK _ _ ⟨B65_put _ _ 16 _ hB (by decide) (Below.refl _ _), put_same (by omega), ⟨_, 16, _, rfl, rfl, rfl⟩, Below.refl _ _⟩
  ·refine wpOp_step (o := r65x7) rfl fun KK hKK => ?_
   have g16 := tmp_get (hF 6 (by kernel_rfl)) (by omega)
   go_simp
   exact hKK _ _ ⟨B65_put _ _ 17 _ hB (by decide) (Below.refl _ _), put_same (by omega), ⟨_, 17, _, rfl, rfl, rfl⟩, Below.refl _ _⟩
  ·refine wpOp_step (o := r65x8) rfl fun KK hKK => ?_
   have g17 := tmp_get (hF 7 (by kernel_rfl)) (by omega)
   have hba : Below w1.heap.size w1 (w1.alloc (.cells #[.int .u8 (97 + (n : Int) % 26)] 5)) := (Below.refl _ _).alloc (Nat.le_refl _) _
   go_simp
   exact hKK _ _ ⟨B65_put _ _ 18 _ hB (by decide) hba, ⟨w1.heap.size, put_same (by omega), heap_alloc_new _ _⟩, ⟨_, 18, _, rfl, rfl, rfl⟩, hba⟩
  ·refine wpOp_step (o := r65x9) rfl fun KK hKK => ?_
   obtain ⟨b, k18, h18⟩ := hF 8 (by kernel_rfl)
   have g18 := tmp_get k18 (by omega)
   have hcv := conv_letter w1 b (n % 26) hl (by rw [e4]; exact cell_box h18)
   go_simp
   exact hKK _ _ ⟨B65_put _ _ 19 _ hB (by decide) (Below.refl _ _), put_same (by omega), ⟨_, 19, _, rfl, rfl, rfl⟩, Below.refl _ _⟩
  ·refine wpOp_step (o := r65x10) rfl fun KK hKK => ?_
   have g13 := tmp_get (hF 3 (by kernel_rfl)) (by omega)
   have g19 := tmp_get (hF 9 (by kernel_rfl)) (by omega)
   have hap : lettersB (n / 26 - 1) ++ ⟨#[letterC (n % 26)]⟩ = lettersB n := by rw [HR.o]; apply ByteArray.ext; simp
   go_simp
   exact hKK _ _ ⟨B65_put _ _ 20 _ hB (by decide) (Below.refl _ _), put_same (by omega), ⟨_, 20, _, rfl, rfl, rfl⟩, Below.refl _ _⟩
 case hlast =>
  intro a1 w1 hB hF
  obtain ⟨hsz, hdf, g0, hbw⟩ := hB
  have g20 := tmp_get (hF 10 (by omega)) (by omega)
  refine wpOp_step (o := r65x11) rfl fun KK hKK => ?_
  go_simp
  exact hKK _ _ (HK.o _ _ (by simp; exact hsz) rfl (put_same (by omega)) hbw)
set_option maxHeartbeats 1000000 in
set_option maxRecDepth 10000 in
theorem letters_any : ∀ (n : Nat) (w : World), n < 2 ^ 40 →
  Calls Tryz.prog 65 #[.int .i64 n] w fun e w' => e = .returned (.string (lettersB n)) ∧ Below w.heap.size w w' := by
 intro n
 induction n using Nat.strongRecOn with
 | _ n ih =>
  intro w hn
  by_cases h : n < 26
  ·exact letters_small n w h
  have HC := lh (fun w => ih (n / 26 - 1) (by omega) w (by omega))
  clear ih
  go_enter Tryz.func65, Tryz.ntmps65
  go_wp2_with fail
  refine reg65 rfl rfl hn h HC.o ?_
  intro a' w' g1 g2 g3 hb
  have HB := lh hb
  clear hb
  obtain ⟨ts, dsf⟩ := a'
  simp at g2
  subst g2
  go_wp2
  refine bodyPost_ret (v := .string (lettersB n)) (by simp [results, Tryz.results65, go_sem, g3]) rfl ⟨rfl, HB.o⟩
end Go.Proofs.YtjpahjfjpkbcnaaGreat
namespace Go.Proofs.YtjpahjfjpkbcnaaGreat
open Go.Proofs Go.RowKit
theorem pow26_mod : ∀ s : Nat, 26 ^ s % 25 = 1
 | 0 => rfl
 | s + 1 => by rw [Nat.pow_succ]; have := pow26_mod s; omega
theorem off_succ (s : Nat) (h : 1 ≤ s) : (26 ^ (s + 1) - 26) / 25 = (26 ^ s - 26) / 25 + 26 ^ s := by
 obtain ⟨t, rfl⟩ : ∃ t, s = t + 1 := ⟨s - 1, by omega⟩
 have h1 := pow26_mod t
 have hp : 26 ^ (t + 1) = 26 * 26 ^ t := by rw [Nat.pow_succ, Nat.mul_comm]
 have hq : 26 ^ (t + 1 + 1) = 26 * 26 ^ (t + 1) := by rw [Nat.pow_succ, Nat.mul_comm]
 have h2 : 0 < 26 ^ t := Nat.pow_pos (by decide)
 omega
theorem split_off : ∀ s n, n < (26 ^ (s + 1) - 26) / 25 → ∃ s' k', 1 ≤ s' ∧ s' ≤ s ∧ k' < 26 ^ s' ∧ n = (26 ^ s' - 26) / 25 + k'
 | 0, n, h => by simp at h
 | s + 1, n, h => by
  rw [off_succ (s + 1) (by omega)] at h
  by_cases hn : n < (26 ^ (s + 1) - 26) / 25
  ·obtain ⟨s', k', h1, h2, h3, h4⟩ := split_off s n hn
   exact ⟨s', k', h1, by omega, h3, h4⟩
  ·exact ⟨s + 1, n - (26 ^ (s + 1) - 26) / 25, by omega, by omega, by omega, by omega⟩
theorem word_lettersB (s k : Nat) (hs : 1 ≤ s) (hk : k < 26 ^ s) : lettersB ((26 ^ s - 26) / 25 + k) = wordB s k := by
 obtain ⟨t, rfl⟩ : ∃ t, s = t + 1 := ⟨s - 1, by omega⟩
 unfold lettersB wordB
 rw [word_letters t k hk]
theorem firstFrom_is (mem : List UInt8 → Bool) : ∀ f size, size + f = 9 → (∃ s k, size ≤ s ∧ s ≤ 8 ∧ k < 26 ^ s ∧ freshB mem (wordB s k) = true) →
  ∃ s k, size ≤ s ∧ s ≤ 8 ∧ k < 26 ^ s ∧ firstFrom mem f size = wordB s k ∧ freshB mem (wordB s k) = true ∧ (∀ k', k' < k → freshB mem (wordB s k') = false) ∧ ∀ s' k', size ≤ s' → s' < s → k' < 26 ^ s' → freshB mem (wordB s' k') = false
 | 0, size, h, ⟨s, k, h1, h2, _⟩ => by omega
 | f + 1, size, h, ⟨s, k, h1, h2, h3, h4⟩ => by
  have hf : (wordsN size).find? (freshB mem) = ((List.range (26 ^ size)).find? (freshB mem ∘ wordB size)).map (wordB size) := by unfold wordsN; rw [List.find?_map]
  cases hr : (List.range (26 ^ size)).find? (freshB mem ∘ wordB size) with
  | some i =>
   obtain ⟨g1, g2, g3⟩ := List.find?_range_eq_some.1 hr
   refine ⟨size, i, Nat.le_refl _, by omega, List.mem_range.1 g2, ?_, g1, fun k' hk' => by simpa using g3 k' hk', fun s' k' a b _ => by omega⟩
   conv => lhs; unfold firstFrom
   rw [hf, hr]; rfl
  | none =>
   have hnone : ∀ j, j < 26 ^ size → freshB mem (wordB size j) = false := fun j hj => by
    have := List.find?_eq_none.1 hr j (List.mem_range.2 hj)
    simpa using this
   have hne : s ≠ size := by rintro rfl; rw [hnone k h3] at h4; cases h4
   obtain ⟨s', k', a1, a2, a3, a4, a5, a6, a7⟩ := firstFrom_is mem f (size + 1) (by omega) ⟨s, k, by omega, h2, h3, h4⟩
   refine ⟨s', k', by omega, a2, a3, ?_, a5, a6, fun s2 k2 b1 b2 b3 => ?_⟩
   ·rw [← a4]
    conv => lhs; unfold firstFrom
    rw [hf, hr]; rfl
   ·by_cases hs2 : s2 = size
    ·subst hs2; exact hnone k2 b3
    ·exact a7 s2 k2 (by omega) b2 b3
theorem first_is (mem : List UInt8 → Bool) (h : ∃ s k, 1 ≤ s ∧ s ≤ 8 ∧ k < 26 ^ s ∧ freshB mem (wordB s k) = true) :
  ∃ N, N < 2 ^ 39 ∧ lettersB N = firstW mem ∧ freshB mem (lettersB N) = true ∧ ∀ n, n < N → freshB mem (lettersB n) = false := by
 obtain ⟨s, k, h1, h2, h3, h4, h5, h6, h7⟩ := firstFrom_is mem 8 1 rfl h
 refine ⟨(26 ^ s - 26) / 25 + k, ?_, (word_lettersB s k h1 h3).trans h4.symm, by rw [word_lettersB s k h1 h3]; exact h5, fun n hn => ?_⟩
 ·have hs : s = 1 ∨ s = 2 ∨ s = 3 ∨ s = 4 ∨ s = 5 ∨ s = 6 ∨ s = 7 ∨ s = 8 := by omega
  rcases hs with rfl | rfl | rfl | rfl | rfl | rfl | rfl | rfl <;> omega
 ·have hlt : n < (26 ^ (s + 1) - 26) / 25 := by rw [off_succ s h1]; omega
  obtain ⟨s', k', g1, g2, g3, rfl⟩ := split_off s n hlt
  rw [word_lettersB s' k' g1 g3]
  by_cases e : s' = s
  ·subst e; exact h6 k' (by omega)
  ·exact h7 s' k' g1 (by omega) g3
theorem pigeon {α : Type} [BEq α] [LawfulBEq α] : ∀ (xs l : List α), xs.Nodup → (∀ x ∈ xs, x ∈ l) → xs.length ≤ l.length
 | [], _, _, _ => Nat.zero_le _
 | x :: xs, l, hn, hs => by
  obtain ⟨h1, h2⟩ := List.nodup_cons.1 hn
  have hx := hs x List.mem_cons_self
  have := pigeon xs (l.erase x) h2 fun y hy => (List.mem_erase_of_ne (by rintro rfl; exact h1 hy)).2 (hs y (List.mem_cons_of_mem _ hy))
  rw [List.length_erase_of_mem hx] at this
  have := List.length_pos_of_mem hx
  simp; omega
theorem letters_inj : ∀ (ds ds' : List Nat), (∀ d ∈ ds, d < 26) → (∀ d ∈ ds', d < 26) → letters ds = letters ds' → ds = ds'
 | [], [], _, _, _ => rfl
 | [], _ :: _, _, _, h => by simp [letters] at h
 | _ :: _, [], _, _, h => by simp [letters] at h
 | d :: ds, e :: es, h1, h2, h => by
  unfold letters at h
  simp only [List.map_cons, List.cons.injEq] at h
  have hd := h1 d List.mem_cons_self
  have he := h2 e List.mem_cons_self
  have hh := congrArg UInt8.toNat h.1
  rw [UInt8.toNat_ofNat', UInt8.toNat_ofNat'] at hh
  rw [letters_inj ds es (fun x hx => h1 x (List.mem_cons_of_mem _ hx)) (fun x hx => h2 x (List.mem_cons_of_mem _ hx)) h.2]
  congr 1
  omega
theorem small_letters : ∀ ds : List Nat, (∀ d ∈ ds, d < 26) → smallL (letters ds) = true
 | [], _ => rfl
 | d :: ds, h => by
  have hd := h d List.mem_cons_self
  have ih := small_letters ds fun x hx => h x (List.mem_cons_of_mem _ hx)
  unfold smallL letters at ih ⊢
  rw [List.map_cons, List.all_cons, ih]
  have h2 : (UInt8.ofNat (97 + d)).toNat = 97 + d := by rw [UInt8.toNat_ofNat']; omega
  simp only [smallC, h2, Bool.and_true, Bool.and_eq_true, decide_eq_true_eq]
  omega
theorem key_len : keyL.all (fun k => decide (k.length ≤ 6)) = true := by decide
theorem word7_toList (k : Nat) : (wordB 7 k).toList = letters (dig 7 k) := by rw [ByteArray.toList_eq]; rfl
theorem word7_name (k : Nat) : nameB (wordB 7 k) = true := by
 have hl : (letters (dig 7 k)).length = 7 := by simp [letters, dig_len]
 have hs : (wordB 7 k).size = 7 := by rw [← toList_len, word7_toList, hl]
 have hsm : smallB (wordB 7 k) = true := by unfold smallB; rw [word7_toList]; exact small_letters _ (dig_lt 7 k)
 have hk : keyB (wordB 7 k) = false := by
  unfold keyB
  rw [List.any_eq_false]
  intro x hx
  have := List.all_eq_true.1 key_len x hx
  rw [word7_toList]
  simp only [decide_eq_true_eq] at this
  intro he
  have he' := congrArg List.length (eq_of_beq he)
  omega
 simp [nameB, hs, hsm, hk]
theorem exists_fresh (l : List ByteArray) (hl : l.length ≤ 1000000000) : ∃ s k, 1 ≤ s ∧ s ≤ 8 ∧ k < 26 ^ s ∧ freshB (inL l) (wordB s k) = true := by
 refine Classical.byContradiction fun hno => ?_
 have hall : ∀ k, k < 26 ^ 7 → (wordB 7 k).toList ∈ l.map ByteArray.toList := fun k hk => by
  have hf : freshB (inL l) (wordB 7 k) = false := by
   cases h : freshB (inL l) (wordB 7 k)
   ·rfl
   ·exact absurd ⟨7, k, by omega, by omega, hk, h⟩ hno
  simp only [freshB, word7_name, Bool.true_and, Bool.not_eq_false'] at hf
  unfold inL at hf
  obtain ⟨x, hx, he⟩ := List.any_eq_true.1 hf
  exact List.mem_map.2 ⟨x, hx, eq_of_beq he⟩
 have hnd : ((List.range (l.length + 1)).map fun k => (wordB 7 k).toList).Nodup := by
  unfold List.Nodup
  rw [List.pairwise_map]
  refine List.Pairwise.imp_of_mem (fun {a b} ha hb hab => ?_) List.pairwise_lt_range
  have ha' := List.mem_range.1 ha
  have hb' := List.mem_range.1 hb
  intro he
  rw [word7_toList, word7_toList] at he
  have := dig_inj 7 a b (by omega) (by omega) (letters_inj _ _ (dig_lt 7 a) (dig_lt 7 b) he)
  omega
 have := pigeon _ (l.map ByteArray.toList) hnd fun x hx => by
  obtain ⟨k, hk, rfl⟩ := List.mem_map.1 hx
  have hk' := List.mem_range.1 hk
  exact hall k (by omega)
 rw [List.length_map, List.length_map, List.length_range] at this
 omega
set_option maxHeartbeats 1000000 in
set_option maxRecDepth 10000 in
theorem refFresh_any (l : List ByteArray) (v : Value) (w : World) (hv : SsAt w.heap.size w l v) (hl : l.length ≤ 1000000000) :
  Calls Tryz.prog 20 #[v] w fun e w' => e = .returned (.string (firstW (inL l))) ∧ Below w.heap.size w w' := by
 obtain ⟨N, hN, he, hf, hno⟩ := first_is (inL l) (exists_fresh l hl)
 have hfr : ∀ n w1, n ≤ N → Below w.heap.size w w1 → (Calls Tryz.prog 65 #[.int .i64 n] w1 fun e w' => e = .returned (.string (lettersB n)) ∧ Below w1.heap.size w1 w') ∧ (Calls Tryz.prog 16 #[.string (lettersB n)] w1 fun e w' => e = .returned (.bool (nameB (lettersB n))) ∧ Below w1.heap.size w1 w') ∧ (Calls Tryz.prog 51 #[v, .string (lettersB n)] w1 fun e w' => e = .returned (.bool (hasB l (lettersB n))) ∧ Below w1.heap.size w1 w') := fun n w1 hn hb =>
  ⟨letters_any n w1 (by omega), refName_any _ w1 (by have := lettersB_size n; unfold maxLen; omega), Has_any l v _ w1 ((hv.mono hb.size fun b o hlt hr => StrsAt.keep hb _ _ _ hlt hr))⟩
 have hin : ∀ n, hasB l (lettersB n) = inL l (lettersB n).toList := fun n => rfl
 have HFR := lh hfr; have HN := lh hno; have HF := lh hf; have HE := lh he
 clear hfr hno hf he hv
 go_enter Tryz.func20, Tryz.ntmps20
 go_wp2
 go_loopw [3] (fun i wr => ∃ n : Nat, n ≤ N ∧ i = .int .i64 n ∧ Below w.heap.size w wr) (fun i _ => N + 1 - (intOf i).toNat)
 case atStart => exact ⟨0, Nat.zero_le _, rfl, Below.refl _ _⟩
 case round =>
  obtain ⟨n, hn, rfl, hb⟩ := hrel
  have HB := lh hb
  clear hb
  go_wp2_with fail
  refine (HFR.o n wr hn HB.o).1.mono ?_
  rintro e w1 ⟨rfl, hb1⟩
  have HB1 := lh (HB.o.trans (hb1.mono HB.o.size))
  clear hb1 HB
  go_wp2_with fail
  refine (HFR.o n w1 hn HB1.o).2.1.mono ?_
  rintro e w2 ⟨rfl, hb2⟩
  have HB2 := lh (HB1.o.trans (hb2.mono HB1.o.size))
  clear hb2 HB1
  cases hnm : nameB (lettersB n)
  ·have hnN : n ≠ N := by
    rintro rfl
    have := HF.o
    simp [freshB, hnm] at this
   go_wp2
   go_roundw
   case rel => exact ⟨n + 1, by omega, by go_num, HB2.o⟩
   case measure => simp [intOf]; omega
  ·go_wp2_with fail
   refine (HFR.o n w2 hn HB2.o).1.mono ?_
   rintro e w3 ⟨rfl, hb3⟩
   have HB3 := lh (HB2.o.trans (hb3.mono HB2.o.size))
   clear hb3 HB2
   go_wp2_with fail
   refine (HFR.o n w3 hn HB3.o).2.2.mono ?_
   rintro e w4 ⟨rfl, hb4⟩
   have HB4 := lh (HB3.o.trans (hb4.mono HB3.o.size))
   clear hb4 HB3
   cases hhs : hasB l (lettersB n)
   ·have hnN : n = N := by
     rcases Nat.lt_or_ge n N with h | h
     ·have := HN.o n h
      simp [freshB, hnm, ← hin, hhs] at this
     ·omega
    subst hnN
    go_wp2_with fail
    refine (HFR.o n w4 (Nat.le_refl _) HB4.o).1.mono ?_
    rintro e w5 ⟨rfl, hb5⟩
    have HB5 := lh (HB4.o.trans (hb5.mono HB4.o.size))
    clear hb5 HB4
    go_wp2
    go_ret
    exact ⟨by rw [← HE.o]; rfl, HB5.o⟩
   ·have hnN : n ≠ N := by
     rintro rfl
     have := HF.o
     simp [freshB, ← hin, hhs] at this
    go_wp2
    go_roundw
    case rel => exact ⟨n + 1, by omega, by go_num, HB4.o⟩
    case measure => simp [intOf]; omega
end Go.Proofs.YtjpahjfjpkbcnaaGreat
