/- Contracts of the program's functions. -/
import Derived.Test.YtjpahjfjpkbcnaaGreatB02
import Derived.Deep.CutRange
import Derived.Test.YtjpahjfjpkbcnaaGreatB01
import Derived.Deep.RegionHeld3
import Derived.OrdersIn
import Derived.Maps.OwnIn

namespace Go.Proofs.YtjpahjfjpkbcnaaGreat
open Go.Proofs Go.RowKit
set_option maxHeartbeats 1000000 in
theorem name_in (s : ByteArray) (hs : s.size ≤ maxLen) (w : World) :
  Calls Tryz.prog 58 #[.string s] w fun e w' => (∃ v, e = .returned v ∧ TmIn (fun _ => False) w' (.mk 4 0 s [] []) v) ∧ Below w.heap.size w w' := by
 have hx := heap_alloc_new w (.cells #[.int .i64 0, .int .i64 0, .string ⟨#[]⟩, .slice none 0 0, .slice none 0 0] 32)
 have hb := (Below.refl w.heap.size w).alloc (Nat.le_refl _) (.cells #[.int .i64 0, .int .i64 0, .string ⟨#[]⟩, .slice none 0 0, .slice none 0 0] 32)
 go_enter Tryz.func58, Tryz.ntmps58
 go_upto_region 1 with fail
 generalize (w.alloc (.cells #[.int .i64 0, .int .i64 0, .string ⟨#[]⟩, .slice none 0 0, .slice none 0 0] 32)) = V at *
 obtain ⟨z0, z1, z2, z3, z4⟩ := cells5 hx
 have f2 := free_box hx
 have HB := lh hb
 clear hx hb
 go_wp2
 have hkp : Kept (fun k => k = w.heap.size) V (((((V.setCell ⟨w.heap.size, 0, none⟩ (.int .i64 4)).setCell ⟨w.heap.size, 1, none⟩ (.int .i64 0)).setCell ⟨w.heap.size, 2, none⟩ (.string s)).setCell ⟨w.heap.size, 3, none⟩ (.slice none 0 0)).setCell ⟨w.heap.size, 4, none⟩ (.slice none 0 0)) :=
  ((((Kept.setCell (S := fun k => k = w.heap.size) _ rfl _).trans (.setCell (S := fun k => k = w.heap.size) _ rfl _)).trans (.setCell (S := fun k => k = w.heap.size) _ rfl _)).trans (.setCell (S := fun k => k = w.heap.size) _ rfl _)).trans (.setCell (S := fun k => k = w.heap.size) _ rfl _)
 refine bodyPost_ret (v := .agg #[.int .i64 4, .int .i64 0, .string s, .slice none 0 0, .slice none 0 0]) (by simp [results, Tryz.results58, go_sem, z0, z1, z2, z3, z4]) rfl ⟨⟨_, rfl, ?_⟩, HB.o.trans (hkp.below HB.o.size (by rintro k rfl; omega))⟩
 unfold TmIn
 exact ⟨_, _, rfl, hs, .inl ⟨rfl, rfl⟩, .inl ⟨rfl, rfl⟩⟩
set_option maxHeartbeats 2000000 in
set_option maxRecDepth 100000 in
theorem plus_in (B : Nat → Prop) (A C : Tm) (v v' : Value) (w : World) (hB0 : ∀ b, B b → b < w.heap.size) (hAi : TmIn B w A v) (hCi : TmIn B w C v') :
  Calls Tryz.prog 57 #[v, v'] w fun e w' => (∃ u, e = .returned u ∧ TmIn (fun b => B b ∨ Fresh w w' b) w' (.mk 9 0 ⟨#[]⟩ [A, C] []) u) ∧ Below w.heap.size w w' := by
 have hA : TmAt w.heap.size w A v := TmIn.to hB0 _ _ hAi
 have hC : TmAt w.heap.size w C v' := TmIn.to hB0 _ _ hCi
 obtain ⟨oo, nn, tt, ka, kn, kc, pa, pn, pc, rfl⟩ : ∃ oo nn tt ka kn kc pa pn pc, v = .agg #[.int .i64 oo, .int .i64 nn, .string tt, .slice ka kn kc, .slice pa pn pc] := by
  obtain ⟨a, cap, a', cap', rfl, -⟩ := hA.parts
  exact ⟨_, _, _, _, _, _, _, _, _, rfl⟩
 obtain ⟨oo', nn', tt', ka', kn', kc', pa', pn', pc', rfl⟩ : ∃ oo nn tt ka kn kc pa pn pc, v' = .agg #[.int .i64 oo, .int .i64 nn, .string tt, .slice ka kn kc, .slice pa pn pc] := by
  obtain ⟨a, cap, a', cap', rfl, -⟩ := hC.parts
  exact ⟨_, _, _, _, _, _, _, _, _, rfl⟩
 obtain ⟨W1, hW1⟩ : ∃ W1, W1 = (w.alloc (.cells #[.int .i64 oo, .int .i64 nn, .string tt, .slice ka kn kc, .slice pa pn pc] 32)).alloc (.cells #[.int .i64 oo', .int .i64 nn', .string tt', .slice ka' kn' kc', .slice pa' pn' pc'] 32) := ⟨_, rfl⟩
 have hb1 : Below w.heap.size w W1 := by rw [hW1]; exact ((Below.refl _ w).alloc (Nat.le_refl _) _).alloc (by simp) _
 have hs1 : W1.heap.size = w.heap.size + 2 := by rw [hW1]; simp
 have hx1 : W1.heap[w.heap.size]? = some (.cells #[.int .i64 oo, .int .i64 nn, .string tt, .slice ka kn kc, .slice pa pn pc] 32 (0, 0)) := by rw [hW1, Below.heap_alloc _ _ _ (by simp)]; exact heap_alloc_new _ _
 have hx2 : W1.heap[w.heap.size + 1]? = some (.cells #[.int .i64 oo', .int .i64 nn', .string tt', .slice ka' kn' kc', .slice pa' pn' pc'] 32 (0, 0)) := by
  rw [hW1]; have := heap_alloc_new (w.alloc (.cells #[.int .i64 oo, .int .i64 nn, .string tt, .slice ka kn kc, .slice pa pn pc] 32)) (.cells #[.int .i64 oo', .int .i64 nn', .string tt', .slice ka' kn' kc', .slice pa' pn' pc'] 32); simpa using this
 have hb2 : Below w.heap.size w (W1.alloc (.cells #[.int .i64 0, .int .i64 0, .string ⟨#[]⟩, .slice none 0 0, .slice none 0 0] 32)) := hb1.trans ((Below.refl _ W1).alloc (by omega) _)
 have hy1 := bget' ((Below.refl W1.heap.size W1).alloc (Nat.le_refl _) (.cells #[.int .i64 0, .int .i64 0, .string ⟨#[]⟩, .slice none 0 0, .slice none 0 0] 32)) hx1
 have hy2 := bget' ((Below.refl W1.heap.size W1).alloc (Nat.le_refl _) (.cells #[.int .i64 0, .int .i64 0, .string ⟨#[]⟩, .slice none 0 0, .slice none 0 0] 32)) hx2
 have hy3 := heap_alloc_new W1 (.cells #[.int .i64 0, .int .i64 0, .string ⟨#[]⟩, .slice none 0 0, .slice none 0 0] 32)
 rw [hs1] at hy3
 replace hy3 : (W1.alloc (.cells #[.int .i64 0, .int .i64 0, .string ⟨#[]⟩, .slice none 0 0, .slice none 0 0] 32)).heap[w.heap.size + 1 + 1]? = some (.cells #[.int .i64 0, .int .i64 0, .string ⟨#[]⟩, .slice none 0 0, .slice none 0 0] 32 (0, 0)) := hy3
 have hs3 : (W1.alloc (.cells #[.int .i64 0, .int .i64 0, .string ⟨#[]⟩, .slice none 0 0, .slice none 0 0] 32)).heap.size = w.heap.size + 3 := by simp [hs1]
 have HA := lh hAi; have HC := lh hCi; have HB0 := lh hB0
 clear hA hC hAi hCi hB0 hx1 hx2
 go_enter Tryz.func57, Tryz.ntmps57
 go_upto_region 1 with fail
 rw [← hW1]
 generalize (W1.alloc (.cells #[.int .i64 0, .int .i64 0, .string ⟨#[]⟩, .slice none 0 0, .slice none 0 0] 32)) = V at *
 obtain ⟨c0, c1, c2, c3, c4⟩ := cells5 hy1
 obtain ⟨d0, d1, d2, d3, d4⟩ := cells5 hy2
 have hten := heap_alloc_new V (.cells #[.int .i64 oo, .int .i64 nn, .string tt, .slice ka kn kc, .slice pa pn pc, .int .i64 oo', .int .i64 nn', .string tt', .slice ka' kn' kc', .slice pa' pn' pc'] 32)
 have hbT : Below V.heap.size V (V.alloc (.cells #[.int .i64 oo, .int .i64 nn, .string tt, .slice ka kn kc, .slice pa pn pc, .int .i64 oo', .int .i64 nn', .string tt', .slice ka' kn' kc', .slice pa' pn' pc'] 32)) := (Below.refl _ V).alloc (Nat.le_refl _) _
 have hz := bget' hbT hy3
 obtain ⟨z0, z1, z2, z3, z4⟩ := cells5 hz
 have f2 := free_box hz
 have HB2 := lh hb2; have HTEN := lh hten; have HBT := lh hbT; have HS3 := lh hs3
 clear hy1 hy2 hy3 hz hten hbT hb1 hb2 hs1 hs3 hW1
 go_wp2
 have hkp : Kept (fun k => k = w.heap.size + 1 + 1) (V.alloc (.cells #[.int .i64 oo, .int .i64 nn, .string tt, .slice ka kn kc, .slice pa pn pc, .int .i64 oo', .int .i64 nn', .string tt', .slice ka' kn' kc', .slice pa' pn' pc'] 32)) ((((((V.alloc (.cells #[.int .i64 oo, .int .i64 nn, .string tt, .slice ka kn kc, .slice pa pn pc, .int .i64 oo', .int .i64 nn', .string tt', .slice ka' kn' kc', .slice pa' pn' pc'] 32)).setCell ⟨w.heap.size + 1 + 1, 0, none⟩ (.int .i64 9)).setCell ⟨w.heap.size + 1 + 1, 1, none⟩ (.int .i64 0)).setCell ⟨w.heap.size + 1 + 1, 2, none⟩ (.string ⟨#[]⟩)).setCell ⟨w.heap.size + 1 + 1, 3, none⟩ (.slice (some ⟨V.heap.size, 0, none⟩) 2 2)).setCell ⟨w.heap.size + 1 + 1, 4, none⟩ (.slice none 0 0)) :=
  ((((Kept.setCell (S := fun k => k = w.heap.size + 1 + 1) _ rfl _).trans (.setCell (S := fun k => k = w.heap.size + 1 + 1) _ rfl _)).trans (.setCell (S := fun k => k = w.heap.size + 1 + 1) _ rfl _)).trans (.setCell (S := fun k => k = w.heap.size + 1 + 1) _ rfl _)).trans (.setCell (S := fun k => k = w.heap.size + 1 + 1) _ rfl _)
 have hsz := HS3.o
 have h10 := hkp.get HTEN.o (by omega)
 have hB : Below w.heap.size w ((((((V.alloc (.cells #[.int .i64 oo, .int .i64 nn, .string tt, .slice ka kn kc, .slice pa pn pc, .int .i64 oo', .int .i64 nn', .string tt', .slice ka' kn' kc', .slice pa' pn' pc'] 32)).setCell ⟨w.heap.size + 1 + 1, 0, none⟩ (.int .i64 9)).setCell ⟨w.heap.size + 1 + 1, 1, none⟩ (.int .i64 0)).setCell ⟨w.heap.size + 1 + 1, 2, none⟩ (.string ⟨#[]⟩)).setCell ⟨w.heap.size + 1 + 1, 3, none⟩ (.slice (some ⟨V.heap.size, 0, none⟩) 2 2)).setCell ⟨w.heap.size + 1 + 1, 4, none⟩ (.slice none 0 0)) := (HB2.o.trans (HBT.o.mono HB2.o.size)).trans (hkp.below (HB2.o.trans (HBT.o.mono HB2.o.size)).size (by rintro k rfl; omega))
 refine bodyPost_ret (v := .agg #[.int .i64 9, .int .i64 0, .string ⟨#[]⟩, .slice (some ⟨V.heap.size, 0, none⟩) 2 2, .slice none 0 0]) (by simp [results, Tryz.results57, go_sem, z0, z1, z2, z3, z4]) rfl ⟨⟨_, rfl, ?_⟩, hB⟩
 have hn := hB.size
 have hkeep : ∀ b, B b → _ := fun b h => hB.block b (HB0.o b h)
 have hfr := lt_of_block h10
 have hst := HBT.o.size; have hs2 := HB2.o.size
 unfold TmIn
 refine ⟨_, _, rfl, Nat.zero_le _, .inr ⟨V.heap.size, 0, 2, rfl, Nat.le_refl _, by unfold maxLen; omega, .inr ⟨by omega, hfr⟩, ?_⟩, .inl ⟨rfl, rfl⟩⟩
 unfold TmsIn
 refine ⟨⟨_, _, _, _, _, cell_box h10, cell_box h10, cell_box h10, cell_box h10, cell_box h10, TmIn.keep hkeep (fun b h => .inl h) _ _ HA.o⟩, ?_⟩
 unfold TmsIn
 refine ⟨⟨_, _, _, _, _, cell_box h10, cell_box h10, cell_box h10, cell_box h10, cell_box h10, TmIn.keep hkeep (fun b h => .inl h) _ _ HC.o⟩, ?_⟩
 unfold TmsIn
 trivial
end Go.Proofs.YtjpahjfjpkbcnaaGreat
namespace Go
theorem Shut.o {p : Prop} (h : Shut p) : p := h.out
end Go
namespace Go.Proofs.YtjpahjfjpkbcnaaGreat
open Go.Proofs Go.RowKit
section
variable {P : Program} {ops : Array Oper} {Q : Exit → Act → World → Prop} {md : Region.Mode} {S : World → Prop} {z : Nat}
def wpAnyZ (P : Program) (md : Region.Mode) (ops : Array Oper) (Q : Exit → Act → World → Prop) (S : World → Prop) (z : Nat) : Nat → Array Bool → Act → World → Prop
 | 0, listed, a, w => Region.ready md ops listed = [] ∧ Q .normal a w
 | fuel + 1, listed, a, w =>
  (Region.ready md ops listed = [] → Q .normal a w) ∧
  ∀ i ∈ Region.ready md ops listed, wpOp P ops Q i (fun a' w' => (i ≠ z → S w') ∧ wpAnyZ P md ops Q S z fuel (listed.setIfInBounds i true) a' w') a w
theorem wpAny_of_z : ∀ (fuel : Nat) (listed : Array Bool) (a : Act) (w : World), wpAnyZ P md ops Q S z fuel listed a w → wpAny P md ops Q fuel listed a w
 | 0, _, _, _, h => h
 | fuel + 1, _, _, _, h => ⟨h.1, fun i hi => wpOp_mono (fun a' w' h' => wpAny_of_z fuel _ a' w' h'.2) (h.2 i hi)⟩
def waitsB (md : Region.Mode) (ops : Array Oper) (z i : Nat) : Bool := match ops[z]? with
 | some o => o.after.any fun e => Region.binds md e && e.on == i
 | none => true
theorem wpAnyZ_first {i : Nat} {oi : Oper} {v : Value} (hi : ops[i]? = some oi) (hsel : ∀ (j : Nat) (o : Oper) cs b, ops[j]? = some o → o.op ≠ .select cs b)
  (hQ : ∀ c a w, Q (.panic c) (a.put oi.dst v) w → Q (.panic c) a w) (hz : waitsB md ops z i = true) (hiz : i ≠ z) :
  ∀ (fuel : Nat) (listed : Array Bool) (a : Act) (w : World),
   (∀ j oj, ops[j]? = some oj → j ≠ i → listed.getD j true = false → (∀ e ∈ oj.after, Region.binds md e = true → e.on ≠ i) → oi.apart ops oj = true) →
   i ∈ Region.ready md ops listed → YieldsIf P ops S oi v a → S w →
   wpAnyZ P md ops Q S z fuel (listed.setIfInBounds i true) (a.put oi.dst v) w → wpAnyZ P md ops Q S z (fuel + 1) listed a w := by
 intro fuel
 induction fuel with
 | zero =>
  intro listed a w _ hr hy hS H
  refine ⟨fun h => (by rw [h] at hr; cases hr), fun j hj => ?_⟩
  by_cases hji : j = i
  ·subst hji; exact hy.wpOp hi hS ⟨fun _ => hS, H⟩
  ·have := ready_mono hj hji
   rw [H.1] at this
   cases this
 | succ fuel ih =>
  intro listed a w hfree hr hy hS H
  refine ⟨fun h => (by rw [h] at hr; cases hr), fun j hj => ?_⟩
  by_cases hji : j = i
  ·subst hji; exact hy.wpOp hi hS ⟨fun _ => hS, H⟩
  ·have h1 := H.2 j (ready_mono hj hji)
   obtain ⟨hjun, oj, hoj, hall⟩ := mem_ready.1 hj
   have hnot : ∀ e ∈ oj.after, Region.binds md e = true → e.on ≠ i := fun e he hb heq => by
    have h1 := hall e he hb
    have h0 := (mem_ready.1 hr).1
    rw [heq] at h1
    rcases Nat.lt_or_ge i listed.size with h' | h'
    ·simp [h'] at h0 h1; rw [h0] at h1; cases h1
    ·simp [Array.getElem?_eq_none h'] at h1
   have hjz : j ≠ z := by
    rintro rfl
    unfold waitsB at hz
    rw [hoj] at hz
    obtain ⟨e, he, hb⟩ := Array.any_eq_true'.1 hz
    simp only [Bool.and_eq_true, beq_iff_eq] at hb
    exact hnot e he hb.1 hb.2
   have h2 := wpOp_putIf hoj (hfree j oj hoj hji hjun hnot) (fun cs b => hsel i oi cs b hi) (fun cs b => hsel j oj cs b hoj) hQ hy h1
   have hfree' : ∀ k ok, ops[k]? = some ok → k ≠ i → (listed.setIfInBounds j true).getD k true = false →
     (∀ e ∈ ok.after, Region.binds md e = true → e.on ≠ i) → oi.apart ops ok = true := fun k ok hk hki hun hno => by
    refine hfree k ok hk hki ?_ hno
    by_cases hjk : j = k
    ·subst hjk; exact hjun
    ·rw [getD_set_ne true hjk] at hun; exact hun
   refine wpOp_mono (fun a' w' h3 => ⟨h3.2.1, ih (listed.setIfInBounds j true) a' w' hfree' (ready_mono hr (Ne.symm hji)) h3.1 (h3.2.1 hjz) ?_⟩) h2
   rw [Array.setIfInBounds_comm _ _ hji]
   exact h3.2.2
theorem wpAnyZ_take (i : Nat) {oi : Oper} {v : Value} {fuel : Nat} {listed : Array Bool} {a : Act} {w : World} (hS : S w) (hi : ops[i]? = some oi)
  (hs : Region.noSelect ops = true) (hf : Region.free md ops listed i = true) (hr : (Region.ready md ops listed).contains i = true)
  (hQ : ∀ c a w, Q (.panic c) (a.put oi.dst v) w → Q (.panic c) a w) (hz : waitsB md ops z i = true) (hiz : (i == z) = false)
  (hw : Region.wanted oi (yielded ops a.tmps) = true) (hy : ∀ w, S w → (execOp a.eval oi).run P w = .ok (.value v) w)
  (h : wpAnyZ P md ops Q S z fuel (listed.setIfInBounds i true) (a.put oi.dst v) w) : wpAnyZ P md ops Q S z (fuel + 1) listed a w :=
 wpAnyZ_first hi (Region.noSelect_spec hs) hQ hz (by simpa using hiz) fuel listed a w (Region.free_spec hi hf) (by simpa using hr) (Or.inl ⟨hw, hy⟩) hS h
theorem wpAnyZ_one (i : Nat) {o : Oper} {fuel : Nat} {listed : Array Bool} {a : Act} {w : World} (hr : Region.ready md ops listed = [i]) (ho : ops[i]? = some o)
  (h : ∀ K' : Act → World → Prop, Shut (∀ a' w', (i ≠ z → S w') → wpAnyZ P md ops Q S z fuel (listed.setIfInBounds i true) a' w' → K' a' w') → if Region.wanted o (yielded ops a.tmps) = true then Oper.wp P o a w K' Q else K' (a.put o.dst undef) w) :
  wpAnyZ P md ops Q S z (fuel + 1) listed a w := by
 refine ⟨fun h => (by rw [hr] at h; cases h), fun j hj => ?_⟩
 rw [hr] at hj
 obtain rfl : j = i := by simpa using hj
 exact wpOp_step ho (fun K' hK => h K' (fun a' w' h1 h2 => hK a' w' ⟨h1, h2⟩))
theorem wpAnyZ_done {listed : Array Bool} {a : Act} {w : World} (hr : Region.ready md ops listed = []) (h : Q .normal a w) : ∀ fuel, wpAnyZ P md ops Q S z fuel listed a w
 | 0 => ⟨hr, h⟩
 | _ + 1 => ⟨fun _ => h, by rw [hr]; simp⟩
theorem wp_region_z {id : Nat} {a : Act} {w : World} (S : World → Prop) (z : Nat) (hm : P.follows .mixedOrders = true) (h : wpAnyZ P .any ops Q S z ops.size (Array.replicate ops.size false) a w.drew) : (Code.region id ops true).wp P Q a w :=
 wp_region_any hm (wpAny_of_z _ _ _ _ h)
end
theorem wpOp_round {P : Program} {ops : Array Oper} {Q : Exit → Act → World → Prop} {i l n : Nat} {K K' : Act → World → Prop} {a : Act} {w : World}
  (hd : ∀ (i : Nat) (o : Oper), ops[i]? = some o → ∀ c, o.op ≠ .defer c) (ho : ¬ LetsOut Q) (hK : ∀ a w, K a w → K' a w) (h : wpOp P ops Q i K a w) : wpOpIn (Fence.wide.inRound l) n P ops Q i K' a w := by
 unfold wpOp at h
 unfold wpOpIn
 cases hi : ops[i]? with
 | none => rw [hi] at h; exact hK _ _ h
 | some o =>
  rw [hi] at h
  simp only at h ⊢
  split at h
  ·rename_i hw
   rw [if_pos hw]
   rcases h with h | ⟨-, h⟩
   case inr => exact absurd h ho
   refine ⟨fun _ _ => trivial, ?_⟩
   rw [Fence.inRound_round, Oper.semAt_some l _ o (hd i o hi)]
   unfold Oper.wp at h
   generalize (execOp a.eval o).run P w = r at *
   cases r with
   | ok x w' =>
    cases x <;> simp only [Oper.upon, Oper.uponIn] at h ⊢
    case value u => exact hK _ _ h
    case skip => exact hK _ _ h
    case defer d => exact hK _ _ h
    case enter f args =>
     refine ⟨fun h => by simp [Fence.wide] at h, CallsIn.inRound l ((callsIn_wide.2 h).mono fun e w'' he => ?_)⟩
     cases e with
     | returned u => exact hK _ _ he
     | panicked c => exact he
     | outgrown => exact he
    case row row args =>
     refine ⟨fun h => by simp [Fence.wide] at h, fun c cs _ => ?_⟩
     obtain ⟨v, w2, r, s⟩ := h c cs
     exact ⟨v, w2, hK _ _ r, stepsIn_wide.2 s⟩
   | halt x w' => cases x <;> simp only [Oper.upon, Oper.uponIn] at h ⊢ <;> exact h
  ·rename_i hw
   rw [if_neg hw]
   exact ⟨fun _ _ => trivial, hK _ _ h⟩
theorem wpAny_round {P : Program} {ops : Array Oper} {Q : Exit → Act → World → Prop} {l n : Nat} {md : Region.Mode}
  (hd : ∀ (i : Nat) (o : Oper), ops[i]? = some o → ∀ c, o.op ≠ .defer c) (ho : ¬ LetsOut Q) : ∀ (fuel : Nat) (listed : Array Bool) (a : Act) (w : World), wpAny P md ops Q fuel listed a w → wpAnyIn (Fence.wide.inRound l) n P md ops Q fuel listed a w
 | 0, _, _, _, h => h
 | fuel + 1, _, _, _, h => ⟨h.1, fun i hi => wpOp_round hd ho (fun a w h => wpAny_round hd ho fuel _ a w h) (h.2 i hi)⟩
end Go.Proofs.YtjpahjfjpkbcnaaGreat
namespace Go.Proofs.YtjpahjfjpkbcnaaGreat
open Go.Proofs Go.RowKit
section
variable {P : Program} {ops : Array Oper} {Q : Exit → Act → World → Prop} {md : Region.Mode}
def Ext (ops : Array Oper) (i : Nat) (a : Act) (w : World) (a' : Act) (w' : World) : Prop :=
 (∃ o d v, ops[i]? = some o ∧ o.dst = some d ∧ a' = a.put (some d) v) ∧ Below w.heap.size w w'
theorem getD_set_same (l : Array Bool) (i : Nat) : (l.setIfInBounds i true).getD i true = true := by
 by_cases h : i < l.size
 ·simp [Array.getD, h]
 ·simp [Array.getD, h]
theorem getD_set_false {l : Array Bool} {i j : Nat} (h : (l.setIfInBounds i true).getD j false = true) : j = i ∨ l.getD j false = true := by
 by_cases e : j = i
 ·exact .inl e
 ·rw [getD_set_ne false (Ne.symm e)] at h
  exact .inr h
def orderedB (md : Region.Mode) (ops : Array Oper) : Bool := (List.range ops.size).all fun i => match ops[i]? with
 | some o => o.after.all fun e => !Region.binds md e || decide (e.on < i)
 | none => true
theorem ready_least (ho : orderedB md ops = true) (z : Nat) (hz : z < ops.size) {listed : Array Bool} (hls : listed.size = ops.size) (hzl : listed.getD z true = false) : Region.ready md ops listed ≠ [] := by
 obtain ⟨j, hj, hmin⟩ : ∃ j, listed.getD j true = false ∧ ∀ k, k < j → listed.getD k true ≠ false := by
  have key : ∀ n, listed.getD n true = false → ∃ j, listed.getD j true = false ∧ ∀ k, k < j → listed.getD k true ≠ false := by
   intro n
   induction n using Nat.strongRecOn with
   | _ n ih =>
    intro h
    by_cases hx : ∃ k, k < n ∧ listed.getD k true = false
    ·obtain ⟨k, hk, hf⟩ := hx
     exact ih k hk hf
    ·exact ⟨n, h, fun k hk hf => hx ⟨k, hk, hf⟩⟩
  exact key z hzl
 have hjz : j ≤ z := by
  rcases Nat.lt_or_ge z j with h | h
  ·exact absurd hzl (hmin z h)
  ·exact h
 have hjs : j < ops.size := by omega
 intro h0
 have hm : j ∈ Region.ready md ops listed := by
  refine mem_ready.2 ⟨hj, ops[j], Array.getElem?_eq_getElem hjs, fun e he hb => ?_⟩
  unfold orderedB at ho
  have h1 := List.all_eq_true.1 ho j (List.mem_range.2 hjs)
  rw [Array.getElem?_eq_getElem hjs] at h1
  have h2 := Array.all_eq_true'.1 h1 e he
  simp only [hb, Bool.not_true, Bool.false_or, decide_eq_true_eq] at h2
  have h3 := hmin e.on h2
  have h4 : e.on < listed.size := by omega
  simp [Array.getD, h4] at h3 ⊢
  exact h3
 rw [h0] at hm
 cases hm
theorem wpAny_inv (hord : orderedB md ops = true) (z : Nat) (hz : ∀ j, j < z → waitsB md ops z j = true) (hsz : ops.size = z + 1) (F : Nat → Act → World → Prop) (B : Act → World → Prop) (E : Nat → Act → World → Act → World → Prop)
  (hstep : ∀ i a w, i < z → B a w → (∀ j, waitsB md ops i j = true → F j a w) → wpOp P ops Q i (fun a' w' => B a' w' ∧ F i a' w' ∧ E i a w a' w') a w)
  (hstab : ∀ i j a w a' w', i ≠ j → i < z → j < z → B a w → F j a w → E i a w a' w' → F j a' w')
  (hlast : ∀ a w, B a w → (∀ j, j < z → F j a w) → wpOp P ops Q z (fun a' w' => Q .normal a' w') a w) :
  ∀ (fuel : Nat) (unl : List Nat) (listed : Array Bool) (a : Act) (w : World), unl.length ≤ fuel → listed.size = ops.size → (∀ j, listed.getD j true = false → j ∈ unl) → listed.getD z true = false →
   B a w → (∀ j, listed.getD j false = true → F j a w) → wpAny P md ops Q fuel listed a w
 | 0, unl, listed, a, w, hf, _, hu, hzl, _, _ => by
  have := hu z hzl
  cases unl with
  | nil => cases this
  | cons x xs => simp at hf
 | fuel + 1, unl, listed, a, w, hf, hls, hu, hzl, hB, hF => by
  refine ⟨fun hr => ?_, fun i hi => ?_⟩
  ·exact absurd hr (ready_least hord z (by omega) hls hzl)
  ·obtain ⟨hil, o, ho, hall⟩ := mem_ready.1 hi
   have hilt : i < ops.size := (Array.getElem?_eq_some_iff.1 ho).1
   have hpre : ∀ j, waitsB md ops i j = true → listed.getD j false = true := fun j hj => by
    unfold waitsB at hj
    rw [ho] at hj
    obtain ⟨e, he, hb⟩ := Array.any_eq_true'.1 hj
    simp only [Bool.and_eq_true, beq_iff_eq] at hb
    rw [← hb.2]
    exact hall e he hb.1
   by_cases hiz : i = z
   ·subst hiz
    refine wpOp_mono (fun a' w' hq => ?_) (hlast a w hB fun j hj => hF j (hpre j (hz j hj)))
    have hdone : Region.ready md ops (listed.setIfInBounds i true) = [] := by
     rw [List.eq_nil_iff_forall_not_mem]
     intro j hj
     obtain ⟨hjl, o', ho', -⟩ := mem_ready.1 hj
     have hjlt : j < ops.size := (Array.getElem?_eq_some_iff.1 ho').1
     by_cases e : j = i
     ·subst e; rw [getD_set_same] at hjl; cases hjl
     ·rw [getD_set_ne true (Ne.symm e)] at hjl
      have h1 := hpre j (hz j (by omega))
      have h2 : j < listed.size := by omega
      simp [Array.getD, h2] at h1 hjl
      rw [h1] at hjl; cases hjl
    cases fuel with
    | zero => exact ⟨hdone, hq⟩
    | succ n => exact ⟨fun _ => hq, by rw [hdone]; simp⟩
   ·have hlt : i < z := by omega
    refine wpOp_mono (fun a' w' ⟨h1, h2, h3⟩ => ?_) (hstep i a w hlt hB fun j hj => hF j (hpre j hj))
    refine wpAny_inv hord z hz hsz F B E hstep hstab hlast fuel (unl.erase i) _ a' w' ?_ (by simpa using hls) (fun j hj => ?_) (by rw [getD_set_ne true hiz]; exact hzl) h1 (fun j hj => ?_)
    ·rw [List.length_erase_of_mem (hu i hil)]; omega
    ·by_cases e : j = i
     ·subst e; rw [getD_set_same] at hj; cases hj
     ·rw [getD_set_ne true (Ne.symm e)] at hj
      exact (List.mem_erase_of_ne e).2 (hu j hj)
    ·rcases getD_set_false hj with rfl | h
     ·exact h2
     ·by_cases e : i = j
      ·subst e; exact h2
      ·have hjl : j < listed.size := by
        rcases Nat.lt_or_ge j listed.size with h' | h'
        ·exact h'
        ·simp [Array.getD, Nat.not_lt.2 h'] at h
       have hjz : j ≠ z := by
        rintro rfl
        simp [Array.getD, hjl] at h hzl
        rw [h] at hzl; cases hzl
       exact hstab i j a w a' w' e hlt (by omega) hB (hF j h) h3
end
theorem tmps_canon (t0 t1 : Array Value) : ∀ (ds : List Nat), t1.size = t0.size → (∀ k, k ∉ ds → t1[k]? = t0[k]?) → t1 = ds.foldl (fun t d => t.setIfInBounds d (t1.getD d undef)) t0 := by
 intro ds hs hk
 have key : ∀ (es : List Nat) (t : Array Value), t.size = t0.size → (es.foldl (fun t d => t.setIfInBounds d (t1.getD d undef)) t).size = t0.size ∧ ∀ k, (es.foldl (fun t d => t.setIfInBounds d (t1.getD d undef)) t)[k]? = if k ∈ es then t1[k]? else t[k]? := by
  intro es
  induction es with
  | nil => intro t h; exact ⟨h, fun k => by simp⟩
  | cons e es ih =>
   intro t h
   obtain ⟨h1, h2⟩ := ih (t.setIfInBounds e (t1.getD e undef)) (by simpa using h)
   refine ⟨h1, fun k => ?_⟩
   show (es.foldl _ (t.setIfInBounds e (t1.getD e undef)))[k]? = _
   rw [h2 k]
   by_cases hke : k ∈ es
   ·simp [hke]
   ·rw [if_neg hke]
    by_cases h3 : k = e
    ·subst h3
     rw [if_pos (List.mem_cons_self)]
     rcases Nat.lt_or_ge k t1.size with h' | h'
     ·have : k < t.size := by omega
      simp [Array.getD, h', this]
     ·have : ¬ k < t.size := by omega
      simp [Array.getElem?_eq_none h']
      omega
    ·rw [if_neg (fun h => (List.mem_cons.1 h).elim h3 hke), Array.getElem?_setIfInBounds_ne (Ne.symm h3)]
 obtain ⟨h1, h2⟩ := key ds t0 rfl
 refine Array.ext_getElem? fun k => ?_
 rw [h2 k]
 split
 ·rfl
 ·rename_i h; exact hk k h
end Go.Proofs.YtjpahjfjpkbcnaaGreat
namespace Go.Proofs.YtjpahjfjpkbcnaaGreat
open Go.Proofs Go.RowKit
attribute [local go_sem] Oper.semAt_some
def IterC {α : Type} (P : Program) (g : FuncId) (lb : Array Value) (encs : α → Array Value) (xs : List α) (D : Nat → Prop) (w : World) : Prop :=
 ∀ (l : Nat) (J : List α → (Nat → Prop) → World → Prop) (Jx : World → Prop) (Jp : List PanicEntry → World → Prop) (W : World) (C0 : Nat → Prop),
  Below w.heap.size w W → (∀ k, C0 k → k < W.heap.size ∧ ¬ D k) →
  (∀ pre C W1 W2, J pre C W1 → Below W1.heap.size W1 W2 → J pre C W2) →
  (∀ pre x post C W1, xs = pre ++ x :: post → J pre C W1 → YieldAt Fence.wide 0 P l (encs x) W1 fun e W' =>
   Kept C W1 W' ∧ ((e = .returned (.bool true) ∧ ∃ C', (∀ k, C' k → C k ∨ (W1.heap.size ≤ k ∧ k < W'.heap.size)) ∧ J (pre ++ [x]) C' W') ∨ (e = .returned (.bool false) ∧ Jx W') ∨ ∃ ch, e = .panicked ch ∧ Jp ch W')) →
  J [] C0 W →
  CallsIn Fence.wide 0 P g (#[.func (.yield l) #[] #[]] ++ lb) W fun e W' => ((∃ v, e = .returned v) ∧ ((∃ C, J xs C W') ∨ Jx W')) ∨ ∃ ch, e = .panicked ch ∧ Jp ch W'
theorem EnvM.keptC {n₀ : Nat} {W0 Wst : World} {l By Bw Bk : Nat} {tw ty : TypeId} {wf kf : Nat} {W W' : World} {S : Nat → Prop} (hE : EnvM n₀ W0 Wst l By Bw Bk tw ty wf kf W) (hn : n₀ ≤ Wst.heap.size)
  (hS : ∀ k, S k → n₀ ≤ k ∧ k ≠ Bw ∧ k ≠ By ∧ k ≠ Bk) (hk : Kept S W W') : EnvM n₀ W0 Wst l By Bw Bk tw ty wf kf W' :=
 ⟨Nat.le_trans hE.size hk.size, hE.below.trans (hk.below (Nat.le_trans hn hE.size) fun k h => (hS k h).1), hk.get hE.boxY fun h => (hS _ h).2.2.1 rfl, hk.get hE.boxW fun h => (hS _ h).2.1 rfl, hk.get hE.boxK fun h => (hS _ h).2.2.2 rfl⟩
set_option maxHeartbeats 2000000 in
set_option maxRecDepth 100000 in
theorem walkMC (l : Nat) (J : List PartM → (Nat → Prop) → World → Prop) (Jx : World → Prop) (Jp : List PanicEntry → World → Prop) (n₀ : Nat) (W0 Wst : World) (hn : n₀ ≤ Wst.heap.size)
  (By Bw Bk : Nat) (hBw : Bw < Wst.heap.size) (hBy : Wst.heap.size ≤ By) (hBk : Wst.heap.size ≤ Bk)
  (hJ : ∀ pre C W1 W2, J pre C W1 → Below W1.heap.size W1 W2 → J pre C W2) (xs : List PartM)
  (hY : ∀ pre x post C W1, xs = pre ++ x :: post → J pre C W1 → YieldAt Fence.wide 0 Tryz.prog l (encM x) W1 fun e W' =>
   Kept C W1 W' ∧ ((e = .returned (.bool true) ∧ ∃ C', (∀ k, C' k → C k ∨ (W1.heap.size ≤ k ∧ k < W'.heap.size)) ∧ J (pre ++ [x]) C' W') ∨ (e = .returned (.bool false) ∧ Jx W') ∨ ∃ ch, e = .panicked ch ∧ Jp ch W')) (T : Tm) :
  ∀ (v : Value) (d : Int) (pre post : List PartM) (C : Nat → Prop) (W : World), xs = pre ++ segM W0 d T v ++ post → TmAt n₀ W0 T v → EnvM n₀ W0 Wst l By Bw Bk 98 137 78 119 W → (∀ k, C k → k < W.heap.size ∧ n₀ ≤ k ∧ k ≠ Bw ∧ k ≠ By ∧ k ≠ Bk) → J pre C W → 0 ≤ d → d + heightM T ≤ 1000000 →
   CallsIn Fence.wide 0 Tryz.prog 119 #[.int .i64 d, v, .pointer (some ⟨By, 0, none⟩), .pointer (some ⟨Bw, 0, none⟩), .pointer (some ⟨Bk, 0, none⟩)] W fun e W' =>
    (e = .returned (.bool true) ∧ (∃ C', (∀ k, C' k → C k ∨ (W.heap.size ≤ k ∧ k < W'.heap.size)) ∧ J (pre ++ segM W0 d T v) C' W') ∧ W.heap.size ≤ W'.heap.size ∧ EnvM n₀ W0 Wst l By Bw Bk 98 137 78 119 W') ∨ (e = .returned (.bool false) ∧ Jx W') ∨ ∃ ch, e = .panicked ch ∧ Jp ch W' := by
 induction hT : SizeOf.sizeOf T using Nat.strongRecOn generalizing T with
 | _ m ih =>
 subst hT
 intro v d pre post C W hx hv hE hCI hJp hd0 hd
 have HIH := lh ih; clear ih
 cases T with
 | mk op n text kids pats =>
 have HV := lh hv
 unfold TmAt at hv
 obtain ⟨kv, pv, rfl, htx, hk, -⟩ := hv
 obtain ⟨a, cap, rfl, hcap, hlc, hka⟩ := hk.split
 clear hk
 unfold maxLen at hcap
 have HKA := lh hka; clear hka
 have hhk : heightM (.mk op n text kids pats) = heightsM kids + 1 := by conv => lhs; unfold heightM
 rw [hhk] at hd
 have HX := lh hx
 obtain ⟨seg, hseg⟩ : ∃ seg, segM W0 d (.mk op n text kids pats) (.agg #[.int .i64 op, .int .i64 n, .string text, .slice a kids.length cap, pv]) = ⟨d, .mk op n text kids pats, .agg #[.int .i64 op, .int .i64 n, .string text, .slice a kids.length cap, pv]⟩ :: seg ∧ (∀ b o, a = some ⟨b, o, none⟩ → seg = segsM W0 (d + 1) kids b o) ∧ (a = none → seg = segsM W0 (d + 1) kids 0 0) := by
  refine ⟨_, by unfold segM; rfl, ?_, ?_⟩
  ·rintro b o rfl; rfl
  ·rintro rfl; rfl
 have HS := lh hseg; clear hseg hhk
 -- the yield
 have hbt := heap_alloc_new W (.cells #[.int .i64 op, .int .i64 n, .string text, .slice a kids.length cap, pv] 32)
 have hyl := hY pre ⟨d, .mk op n text kids pats, .agg #[.int .i64 op, .int .i64 n, .string text, .slice a kids.length cap, pv]⟩ (seg ++ post) C (W.alloc (.cells #[.int .i64 op, .int .i64 n, .string text, .slice a kids.length cap, pv] 32))
  (by rw [hx, HS.o.1]; simp) (hJ _ _ _ _ hJp ((Below.refl _ _).alloc (Nat.le_refl _) _))
 clear hx
 obtain ⟨fn, tmps, assign, body, hy, hR⟩ := hyl
 have HE := lh hE
 have cY : (W.alloc (.cells #[.int .i64 op, .int .i64 n, .string text, .slice a kids.length cap, pv] 32)).cell? ⟨By, 0, none⟩ = some (.func (.yield l) #[] #[]) := by
  have := bget' ((Below.refl _ W).alloc (Nat.le_refl _) (.cells #[.int .i64 op, .int .i64 n, .string text, .slice a kids.length cap, pv] 32)) hE.boxY
  simp [World.cell?, this]
 clear hE
 dsimp only [encM] at hy
 have HBT := lh hbt; clear hbt
 refine callsIn_of_wp Tryz.func119 rfl trivial ?_ rfl
 simp only [Tryz.ntmps119, List.size_toArray, List.length_cons, List.length_nil, Nat.reduceAdd, Nat.reduceSub, Array.replicate_succ, Array.replicate_zero, List.push_toArray, List.append_toArray, List.nil_append, List.cons_append]
 gi_wp2_with fail
 refine ⟨by simp [Fence.wide], ?_⟩
 have HRR := lh (hR.mono (R' := fun e W' => (e = .returned (.bool true) ∧ Hid (Kept C (W.alloc (.cells #[.int .i64 op, .int .i64 n, .string text, .slice a kids.length cap, pv] 32)) W') ∧ ∃ C', Hid (∀ k, C' k → C k ∨ (W.heap.size + 1 ≤ k ∧ k < W'.heap.size)) ∧ J (pre ++ [⟨d, .mk op n text kids pats, .agg #[.int .i64 op, .int .i64 n, .string text, .slice a kids.length cap, pv]⟩]) C' W') ∨ (e = .returned (.bool false) ∧ Jx W') ∨ ∃ ch, e = .panicked ch ∧ Jp ch W')
  (fun e W' h => h.2.elim (fun h' => .inl ⟨h'.1, h.1, h'.2.imp fun C' hc => ⟨fun k hk => (hc.1 k hk).imp id fun hh => ⟨by simpa using hh.1, hh.2⟩, hc.2⟩⟩) fun h' => .inr h'))
 clear hR hy
 refine RoundIn.mono (HRR.o) ?_
 clear HRR
 rintro e W1 (⟨rfl, HK, C1, HC1, hj1⟩ | ⟨rfl, hjx⟩ | ⟨ch, rfl, hjp⟩)
 ·have hE1 : EnvM n₀ W0 Wst l By Bw Bk 98 137 78 119 W1 := EnvM.keptC (S := C) (HE.o.kept hn (S := fun _ => False) (fun k h => h.elim) hBy hBk (Kept.alloc _ _)) hn (fun k h => (hCI k h).2) HK.o
  have hCI1 : ∀ k, C1 k → k < W1.heap.size ∧ n₀ ≤ k ∧ k ≠ Bw ∧ k ≠ By ∧ k ≠ Bk := fun k h => by
   have h1 := HK.o.size
   have h2 := HE.o.size
   have h3 := lt_of_block HE.o.boxY
   have h4 := lt_of_block HE.o.boxK
   simp at h1
   rcases HC1.o k h with h | h
   ·exact ⟨by have := (hCI k h).1; omega, (hCI k h).2⟩
   ·exact ⟨h.2, by omega, by omega, by omega, by omega⟩
  have hbx := HK.o.get HBT.o (fun h => by have := (hCI _ h).1; omega)
  have d0 : W1.cell? ⟨W.heap.size, 0, none⟩ = some (.int .i64 op) := cell_box hbx
  have d1 : W1.cell? ⟨W.heap.size, 1, none⟩ = some (.int .i64 n) := cell_box hbx
  have d2 : W1.cell? ⟨W.heap.size, 2, none⟩ = some (.string text) := cell_box hbx
  have d3 : W1.cell? ⟨W.heap.size, 3, none⟩ = some (.slice a kids.length cap) := cell_box hbx
  have d4 : W1.cell? ⟨W.heap.size, 4, none⟩ = some pv := cell_box hbx
  have dW : W1.cell? ⟨Bw, 0, none⟩ = some (.func (.func 78) #[] #[]) := cell_box hE1.boxW
  have HE1 := lh hE1; clear hE1 hbx cY
  gi_wp2_with fail
  refine ⟨by simp [Fence.wide], by simp [Fence.wide], ?_⟩
  refine (kidsOf_any _ _ _ _ _ _).mono ?_
  rintro e W2 ⟨rfl, hB2⟩
  have hE2 := HE1.o.kept hn (S := fun _ => False) (fun k h => h.elim) hBy hBk (.of_below hB2)
  have hj2 := hJ _ _ _ _ hj1 hB2
  have hCI2 : ∀ k, C1 k → k < W2.heap.size ∧ n₀ ≤ k ∧ k ≠ Bw ∧ k ≠ By ∧ k ≠ Bk := fun k h => ⟨by have := (hCI1 k h).1; have := hB2.size; omega, (hCI1 k h).2⟩
  have hC1W : ∀ k, C1 k → C k ∨ (W.heap.size ≤ k ∧ k < W2.heap.size) := fun k h => (HC1.o k h).imp id fun hh => ⟨by omega, by have := hh.2; have := hB2.size; omega⟩
  have hw2 : W.heap.size ≤ W2.heap.size := by have := HK.o.size; have := hB2.size; simp at *; omega
  have HW2 := lh hw2; clear hw2
  have HCI := lh hCI; have HCI2 := lh hCI2; have HC1W := lh hC1W; clear hCI hCI1 hCI2 hC1W HC1
  have HE2 := lh hE2; clear hE2 hj1 HE1 d0 d1 d2 d3 d4 dW HK HBT HE hB2
  gi_wp2_with fail
  gi_loopw [19] (fun i wr => ∃ (k : Nat) (dn : List PartM) (C2 : Nat → Prop), k ≤ kids.length ∧ i = .int .i64 k ∧ Hid (dn ++ segsM W0 (d + 1) (kids.drop k) (baseOf (.slice a kids.length cap)).1 ((baseOf (.slice a kids.length cap)).2 + k * 5) = seg) ∧ EnvM n₀ W0 Wst l By Bw Bk 98 137 78 119 wr ∧ J (pre ++ ⟨d, .mk op n text kids pats, .agg #[.int .i64 op, .int .i64 n, .string text, .slice a kids.length cap, pv]⟩ :: dn) C2 wr ∧ Hid (∀ k, C2 k → k < wr.heap.size ∧ n₀ ≤ k ∧ k ≠ Bw ∧ k ≠ By ∧ k ≠ Bk) ∧ Hid (∀ k, C2 k → C k ∨ (W.heap.size ≤ k ∧ k < wr.heap.size)) ∧ Hid (W.heap.size ≤ wr.heap.size)) (fun i _ => kids.length - (intOf i).toNat)
  case atStart =>
   refine ⟨0, [], C1, Nat.zero_le _, rfl, ?_, HE2.o, hj2, HCI2.o, HC1W.o, HW2.o⟩
   unfold Hid
   rcases a with _ | ⟨b, o, sp⟩
   ·simpa [baseOf] using (HS.o.2.2 rfl).symm
   ·by_cases h0 : 0 < kids.length
    ·obtain ⟨b', o', he, -⟩ := HKA.o h0
     cases he
     simpa [baseOf] using (HS.o.2.1 b o rfl).symm
    ·have hnil : kids = [] := by cases kids <;> simp_all
     subst hnil
     have := HS.o.1
     unfold segM segsM at this
     simp at this
     simp [segsM, this]
  case round =>
   obtain ⟨k, dn, C2, hk', rfl, HD, hEr, hjr, HC2, HC2W, HWS⟩ := hrel
   have HER := lh hEr; clear hEr HE2 hj2
   by_cases hlt : k < kids.length
   ·obtain ⟨b, o, rfl, hbn, hts⟩ := HKA.o (by omega)
    obtain ⟨c0, c1, c2, c3, c4, g0, g1, g2, g3, g4, ht⟩ := TmsAt.get kids b o hts k hlt
    have q0 := (HER.o.below.cell (p := ⟨b, _, none⟩) hbn).trans g0
    have q1 := (HER.o.below.cell (p := ⟨b, _, none⟩) hbn).trans g1
    have q2 := (HER.o.below.cell (p := ⟨b, _, none⟩) hbn).trans g2
    have q3 := (HER.o.below.cell (p := ⟨b, _, none⟩) hbn).trans g3
    have q4 := (HER.o.below.cell (p := ⟨b, _, none⟩) hbn).trans g4
    have hsg : segsM W0 (d + 1) (kids.drop k) b (o + k * 5) = segM W0 (d + 1) kids[k] (.agg #[c0, c1, c2, c3, c4]) ++ segsM W0 (d + 1) (kids.drop (k + 1)) b (o + (k + 1) * 5) := by
     rw [segsM_drop W0 (d + 1) kids k b o hlt]; simp [cellAt, g0, g1, g2, g3, g4]
    clear g0 g1 g2 g3 g4
    have HSG := lh hsg; clear hsg
    obtain ⟨oo, nn, tt, ka, kn, kc, pa, pn, pc, rfl, rfl, rfl, rfl, rfl⟩ := ht.shape
    have hh := heightsM_get kids k hlt
    have hEa := HER.o.kept hn (S := fun _ => False) (fun k h => h.elim) hBy hBk (.alloc wr (.cells #[.int .i64 oo, .int .i64 nn, .string tt, .slice ka kn kc, .slice pa pn pc] 32))
    have hja := hJ _ _ _ _ hjr ((Below.refl _ _).alloc (Nat.le_refl _) (.cells #[.int .i64 oo, .int .i64 nn, .string tt, .slice ka kn kc, .slice pa pn pc] 32))
    have cK := cell_box (j := 0) hEa.boxK
    have HEA := lh hEa; clear hEa
    gi_wp2_with fail
    refine ⟨by simp [Fence.wide], by simp [Fence.wide], ?_⟩
    refine (HIH.o _ (kid_lt k hlt) kids[k] rfl _ (d + 1) (pre ++ ⟨d, .mk op n text kids pats, .agg #[.int .i64 op, .int .i64 n, .string text, .slice (some ⟨b, o, none⟩) kids.length cap, pv]⟩ :: dn) (segsM W0 (d + 1) (kids.drop (k + 1)) b (o + (k + 1) * 5) ++ post) C2 _ ?_ ht HEA.o (fun k h => ⟨by have := (HC2.o k h).1; simp; omega, (HC2.o k h).2⟩) hja (by omega) (by omega)).mono ?_
    ·have := HD.o
     simp only [baseOf] at this
     rw [HX.o, HS.o.1, ← this, HSG.o]; simp
    rintro e W3 (⟨rfl, ⟨C3, hC3, hj3⟩, hgw, hE3⟩ | ⟨rfl, hjx⟩ | ⟨ch, rfl, hjp⟩)
    ·simp at hgw
     have HE3 := lh hE3; have HC3 := lh hC3; have HGW := lh hgw; clear hE3 hC3 hgw
     gi_wp2
     go_roundw
     case rel =>
      have hdo := HD.o
      simp only [baseOf] at hdo
      refine ⟨k + 1, dn ++ segM W0 (d + 1) kids[k] _, C3, by omega, by go_num, ?_, HE3.o, by simpa using hj3, ?_, ?_, by have := HWS.out; have := HGW.out; unfold Hid; omega⟩ <;> unfold Hid
      ·simp only [baseOf]; rw [← hdo, HSG.o]; simp
      ·intro k h
       have hgw := HGW.o
       rcases HC3.o k h with h | h
       ·exact ⟨by have := (HC2.o k h).1; omega, (HC2.o k h).2⟩
       ·have h2 := h.1
        simp at h2
        have h3 := lt_of_block HER.o.boxY
        have h4 := lt_of_block HER.o.boxK
        have h5 := HER.o.size
        exact ⟨h.2, by omega, by omega, by omega, by omega⟩
      ·intro k h
       have hgw := HGW.o
       rcases HC3.o k h with h | h
       ·exact (HC2W.o k h).imp id fun hh => ⟨hh.1, by omega⟩
       ·have h2 := h.1
        simp at h2
        have := HWS.o
        exact .inr ⟨by omega, h.2⟩
     case measure => simp [intOf]; omega
    ·gi_wp2
     go_ret
     exact .inr (.inl ⟨rfl, hjx⟩)
    ·gi_wp2
     exact ⟨rfl, .inr (.inr ⟨ch, rfl, hjp⟩)⟩
   ·gi_wp2
    go_ret
    refine .inl ⟨rfl, ⟨C2, HC2W.o, ?_⟩, HWS.o, HER.o⟩
    have h1 : dn = seg := by have := HD.out; rw [List.drop_eq_nil_of_le (by omega)] at this; simpa [segsM] using this
    rw [HS.o.1, ← h1]
    exact hjr
 ·gi_wp2
  go_ret
  exact .inr (.inl ⟨rfl, hjx⟩)
 ·gi_wp2
  exact ⟨rfl, .inr (.inr ⟨ch, rfl, hjp⟩)⟩
set_option maxHeartbeats 2000000 in
set_option maxRecDepth 100000 in
theorem iterMC {n₀ : Nat} {w : World} {T : Tm} {cs : Array Value} {Bt Bw : Nat} (hT : TmAt n₀ w T (.agg cs)) (hn : n₀ ≤ w.heap.size) (hBt : w.heap[Bt]? = some (.cells cs 32 (0, 0))) (hBw : w.heap[Bw]? = some (.cells #[.func (.func 78) #[] #[]] 98 (0, 0)))
  (hht : heightM T ≤ 1000) :
  IterC Tryz.prog 118 #[.pointer (some ⟨Bw, 0, none⟩), .pointer (some ⟨Bt, 0, none⟩)] encM (segM w 1 T (.agg cs)) (fun k => k < n₀ ∨ k = Bw ∨ k = Bt) w := by
 intro l J Jx Jp W C0 hW hC hJ hY h0
 have hwk := walkMC l J Jx Jp n₀ w W (Nat.le_trans hn hW.size) W.heap.size Bw (W.heap.size + 1)
  (by have := lt_of_block hBw; have := hW.size; omega) (Nat.le_refl _) (Nat.le_succ _) hJ (segM w 1 T (.agg cs)) hY T (.agg cs) 1 [] [] C0
  ((W.alloc (.cells #[.func (.yield l) #[] #[]] 137)).alloc (.cells #[.func (.func 119) #[] #[.pointer (some ⟨W.heap.size, 0, none⟩), .pointer (some ⟨Bw, 0, none⟩), .pointer (some ⟨W.heap.size + 1, 0, none⟩)]] 137))
  (by simp) hT
  ⟨by simp; omega, (hW.mono hn).trans ((((Below.refl _ W).alloc (Nat.le_trans hn hW.size) _).alloc (by simp; have := hW.size; omega) _)),
   by rw [Below.heap_alloc _ _ _ (by simp)]; exact heap_alloc_new _ _,
   by rw [Below.heap_alloc _ _ _ (by have := (Array.getElem?_eq_some_iff.1 (bget' hW hBw)).1; simp; omega), Below.heap_alloc _ _ _ (Array.getElem?_eq_some_iff.1 (bget' hW hBw)).1]; exact bget' hW hBw,
   by have := heap_alloc_new (W.alloc (.cells #[.func (.yield l) #[] #[]] 137)) (.cells #[.func (.func 119) #[] #[.pointer (some ⟨W.heap.size, 0, none⟩), .pointer (some ⟨Bw, 0, none⟩), .pointer (some ⟨W.heap.size + 1, 0, none⟩)]] 137); simpa using this⟩
  (fun k hk => ⟨by have := (hC k hk).1; simp; omega, by have := (hC k hk).2; omega, fun e => (hC k hk).2 (.inr (.inl e)), by have := (hC k hk).1; omega, by have := (hC k hk).1; omega⟩)
  (hJ _ _ _ _ h0 ((((Below.refl _ W).alloc (Nat.le_refl _) _).alloc (by simp) _))) (by omega) (by omega)
 have HWK := lh hwk; clear hwk
 have hbt := bget' hW hBt
 have hle : Bt < W.heap.size := (Array.getElem?_eq_some_iff.1 hbt).1
 cases T with
 | mk op n text kids pats =>
 have hsh := hT
 unfold TmAt at hsh
 obtain ⟨kv, pv, h1, h2, h3, h4⟩ := hsh
 cases h1
 have e0 : W.cell? ⟨Bt, 0, none⟩ = some (.int .i64 op) := cell_box hbt
 have e1 : W.cell? ⟨Bt, 1, none⟩ = some (.int .i64 n) := cell_box hbt
 have e2 : W.cell? ⟨Bt, 2, none⟩ = some (.string text) := cell_box hbt
 have e3 : W.cell? ⟨Bt, 3, none⟩ = some kv := cell_box hbt
 have e4 : W.cell? ⟨Bt, 4, none⟩ = some pv := cell_box hbt
 clear h2 h3 h4 hbt
 refine callsIn_of_wp Tryz.func118 rfl trivial ?_ rfl
 simp only [Tryz.ntmps118, List.size_toArray, List.length_cons, List.length_nil, Nat.reduceAdd, Nat.reduceSub, Array.replicate_succ, Array.replicate_zero, List.push_toArray, List.append_toArray, List.nil_append, List.cons_append]
 gi_wp2_with fail
 refine ⟨trivial, rfl, ?_⟩
 refine (HWK.o).mono ?_
 rintro e W3 (⟨rfl, ⟨C3, -, hj3⟩, -, -⟩ | ⟨rfl, hjx⟩ | ⟨ch, rfl, hjp⟩)
 ·gi_wp2
  go_end0
  exact .inl ⟨⟨_, rfl⟩, .inl ⟨C3, by simpa using hj3⟩⟩
 ·gi_wp2
  go_end0
  exact .inl ⟨⟨_, rfl⟩, .inr hjx⟩
 ·gi_wp2
  exact ⟨rfl, .inr ⟨ch, rfl, hjp⟩⟩
set_option maxHeartbeats 2000000 in
set_option maxRecDepth 100000 in
theorem walkPC (l : Nat) (J : List PartP → (Nat → Prop) → World → Prop) (Jx : World → Prop) (Jp : List PanicEntry → World → Prop) (n₀ : Nat) (W0 Wst : World) (hn : n₀ ≤ Wst.heap.size)
  (By Bw Bk : Nat) (hBw : Bw < Wst.heap.size) (hBy : Wst.heap.size ≤ By) (hBk : Wst.heap.size ≤ Bk)
  (hJ : ∀ pre C W1 W2, J pre C W1 → Below W1.heap.size W1 W2 → J pre C W2) (xs : List PartP)
  (hY : ∀ pre x post C W1, xs = pre ++ x :: post → J pre C W1 → YieldAt Fence.wide 0 Tryz.prog l (encP x) W1 fun e W' =>
   Kept C W1 W' ∧ ((e = .returned (.bool true) ∧ ∃ C', (∀ k, C' k → C k ∨ (W1.heap.size ≤ k ∧ k < W'.heap.size)) ∧ J (pre ++ [x]) C' W') ∨ (e = .returned (.bool false) ∧ Jx W') ∨ ∃ ch, e = .panicked ch ∧ Jp ch W')) (T : Pt) :
  ∀ (v : Value) (d : Int) (pre post : List PartP) (C : Nat → Prop) (W : World), xs = pre ++ segP W0 d T v ++ post → PtAt n₀ W0 T v → EnvM n₀ W0 Wst l By Bw Bk 103 142 87 125 W → (∀ k, C k → k < W.heap.size ∧ n₀ ≤ k ∧ k ≠ Bw ∧ k ≠ By ∧ k ≠ Bk) → J pre C W → 0 ≤ d → d + heightP T ≤ 1000000 →
   CallsIn Fence.wide 0 Tryz.prog 125 #[.int .i64 d, v, .pointer (some ⟨By, 0, none⟩), .pointer (some ⟨Bw, 0, none⟩), .pointer (some ⟨Bk, 0, none⟩)] W fun e W' =>
    (e = .returned (.bool true) ∧ (∃ C', (∀ k, C' k → C k ∨ (W.heap.size ≤ k ∧ k < W'.heap.size)) ∧ J (pre ++ segP W0 d T v) C' W') ∧ W.heap.size ≤ W'.heap.size ∧ EnvM n₀ W0 Wst l By Bw Bk 103 142 87 125 W') ∨ (e = .returned (.bool false) ∧ Jx W') ∨ ∃ ch, e = .panicked ch ∧ Jp ch W' := by
 induction hT : SizeOf.sizeOf T using Nat.strongRecOn generalizing T with
 | _ m ih =>
 subst hT
 intro v d pre post C W hx hv hE hCI hJp hd0 hd
 have HIH := lh ih; clear ih
 cases T with
 | mk op n text kids =>
 have HV := lh hv
 unfold PtAt at hv
 obtain ⟨kv, rfl, htx, hk⟩ := hv
 obtain ⟨a, cap, rfl, hcap, hlc, hka⟩ := hk.split
 clear hk
 unfold maxLen at hcap
 have HKA := lh hka; clear hka
 have hhk : heightP (.mk op n text kids) = heightsP kids + 1 := by conv => lhs; unfold heightP
 rw [hhk] at hd
 have HX := lh hx
 obtain ⟨seg, hseg⟩ : ∃ seg, segP W0 d (.mk op n text kids) (.agg #[.int .i64 op, .int .i64 n, .string text, .slice a kids.length cap]) = ⟨d, .mk op n text kids, .agg #[.int .i64 op, .int .i64 n, .string text, .slice a kids.length cap]⟩ :: seg ∧ (∀ b o, a = some ⟨b, o, none⟩ → seg = segsP W0 (d + 1) kids b o) ∧ (a = none → seg = segsP W0 (d + 1) kids 0 0) := by
  refine ⟨_, by unfold segP; rfl, ?_, ?_⟩
  ·rintro b o rfl; rfl
  ·rintro rfl; rfl
 have HS := lh hseg; clear hseg hhk
 -- the yield
 have hbt := heap_alloc_new W (.cells #[.int .i64 op, .int .i64 n, .string text, .slice a kids.length cap] 35)
 have hyl := hY pre ⟨d, .mk op n text kids, .agg #[.int .i64 op, .int .i64 n, .string text, .slice a kids.length cap]⟩ (seg ++ post) C (W.alloc (.cells #[.int .i64 op, .int .i64 n, .string text, .slice a kids.length cap] 35))
  (by rw [hx, HS.o.1]; simp) (hJ _ _ _ _ hJp ((Below.refl _ _).alloc (Nat.le_refl _) _))
 clear hx
 obtain ⟨fn, tmps, assign, body, hy, hR⟩ := hyl
 have HE := lh hE
 have cY : (W.alloc (.cells #[.int .i64 op, .int .i64 n, .string text, .slice a kids.length cap] 35)).cell? ⟨By, 0, none⟩ = some (.func (.yield l) #[] #[]) := by
  have := bget' ((Below.refl _ W).alloc (Nat.le_refl _) (.cells #[.int .i64 op, .int .i64 n, .string text, .slice a kids.length cap] 35)) hE.boxY
  simp [World.cell?, this]
 clear hE
 dsimp only [encP] at hy
 have HBT := lh hbt; clear hbt
 refine callsIn_of_wp Tryz.func125 rfl trivial ?_ rfl
 simp only [Tryz.ntmps125, List.size_toArray, List.length_cons, List.length_nil, Nat.reduceAdd, Nat.reduceSub, Array.replicate_succ, Array.replicate_zero, List.push_toArray, List.append_toArray, List.nil_append, List.cons_append]
 gi_wp2_with fail
 refine ⟨by simp [Fence.wide], ?_⟩
 have HRR := lh (hR.mono (R' := fun e W' => (e = .returned (.bool true) ∧ Hid (Kept C (W.alloc (.cells #[.int .i64 op, .int .i64 n, .string text, .slice a kids.length cap] 35)) W') ∧ ∃ C', Hid (∀ k, C' k → C k ∨ (W.heap.size + 1 ≤ k ∧ k < W'.heap.size)) ∧ J (pre ++ [⟨d, .mk op n text kids, .agg #[.int .i64 op, .int .i64 n, .string text, .slice a kids.length cap]⟩]) C' W') ∨ (e = .returned (.bool false) ∧ Jx W') ∨ ∃ ch, e = .panicked ch ∧ Jp ch W')
  (fun e W' h => h.2.elim (fun h' => .inl ⟨h'.1, h.1, h'.2.imp fun C' hc => ⟨fun k hk => (hc.1 k hk).imp id fun hh => ⟨by simpa using hh.1, hh.2⟩, hc.2⟩⟩) fun h' => .inr h'))
 clear hR hy
 refine RoundIn.mono (HRR.o) ?_
 clear HRR
 rintro e W1 (⟨rfl, HK, C1, HC1, hj1⟩ | ⟨rfl, hjx⟩ | ⟨ch, rfl, hjp⟩)
 ·have hE1 : EnvM n₀ W0 Wst l By Bw Bk 103 142 87 125 W1 := EnvM.keptC (S := C) (HE.o.kept hn (S := fun _ => False) (fun k h => h.elim) hBy hBk (Kept.alloc _ _)) hn (fun k h => (hCI k h).2) HK.o
  have hCI1 : ∀ k, C1 k → k < W1.heap.size ∧ n₀ ≤ k ∧ k ≠ Bw ∧ k ≠ By ∧ k ≠ Bk := fun k h => by
   have h1 := HK.o.size
   have h2 := HE.o.size
   have h3 := lt_of_block HE.o.boxY
   have h4 := lt_of_block HE.o.boxK
   simp at h1
   rcases HC1.o k h with h | h
   ·exact ⟨by have := (hCI k h).1; omega, (hCI k h).2⟩
   ·exact ⟨h.2, by omega, by omega, by omega, by omega⟩
  have hbx := HK.o.get HBT.o (fun h => by have := (hCI _ h).1; omega)
  have d0 : W1.cell? ⟨W.heap.size, 0, none⟩ = some (.int .i64 op) := cell_box hbx
  have d1 : W1.cell? ⟨W.heap.size, 1, none⟩ = some (.int .i64 n) := cell_box hbx
  have d2 : W1.cell? ⟨W.heap.size, 2, none⟩ = some (.string text) := cell_box hbx
  have d3 : W1.cell? ⟨W.heap.size, 3, none⟩ = some (.slice a kids.length cap) := cell_box hbx
  have dW : W1.cell? ⟨Bw, 0, none⟩ = some (.func (.func 87) #[] #[]) := cell_box hE1.boxW
  have HE1 := lh hE1; clear hE1 hbx cY
  gi_wp2_with fail
  refine ⟨by simp [Fence.wide], by simp [Fence.wide], ?_⟩
  refine (partsInP_any _ _ _ _ _).mono ?_
  rintro e W2 ⟨rfl, hB2⟩
  have hE2 := HE1.o.kept hn (S := fun _ => False) (fun k h => h.elim) hBy hBk (.of_below hB2)
  have hj2 := hJ _ _ _ _ hj1 hB2
  have hCI2 : ∀ k, C1 k → k < W2.heap.size ∧ n₀ ≤ k ∧ k ≠ Bw ∧ k ≠ By ∧ k ≠ Bk := fun k h => ⟨by have := (hCI1 k h).1; have := hB2.size; omega, (hCI1 k h).2⟩
  have hC1W : ∀ k, C1 k → C k ∨ (W.heap.size ≤ k ∧ k < W2.heap.size) := fun k h => (HC1.o k h).imp id fun hh => ⟨by omega, by have := hh.2; have := hB2.size; omega⟩
  have hw2 : W.heap.size ≤ W2.heap.size := by have := HK.o.size; have := hB2.size; simp at *; omega
  have HW2 := lh hw2; clear hw2
  have HCI := lh hCI; have HCI2 := lh hCI2; have HC1W := lh hC1W; clear hCI hCI1 hCI2 hC1W HC1
  have HE2 := lh hE2; clear hE2 hj1 HE1 d0 d1 d2 d3 dW HK HBT HE hB2
  gi_wp2_with fail
  gi_loopw [19] (fun i wr => ∃ (k : Nat) (dn : List PartP) (C2 : Nat → Prop), k ≤ kids.length ∧ i = .int .i64 k ∧ Hid (dn ++ segsP W0 (d + 1) (kids.drop k) (baseOf (.slice a kids.length cap)).1 ((baseOf (.slice a kids.length cap)).2 + k * 4) = seg) ∧ EnvM n₀ W0 Wst l By Bw Bk 103 142 87 125 wr ∧ J (pre ++ ⟨d, .mk op n text kids, .agg #[.int .i64 op, .int .i64 n, .string text, .slice a kids.length cap]⟩ :: dn) C2 wr ∧ Hid (∀ k, C2 k → k < wr.heap.size ∧ n₀ ≤ k ∧ k ≠ Bw ∧ k ≠ By ∧ k ≠ Bk) ∧ Hid (∀ k, C2 k → C k ∨ (W.heap.size ≤ k ∧ k < wr.heap.size)) ∧ Hid (W.heap.size ≤ wr.heap.size)) (fun i _ => kids.length - (intOf i).toNat)
  case atStart =>
   refine ⟨0, [], C1, Nat.zero_le _, rfl, ?_, HE2.o, hj2, HCI2.o, HC1W.o, HW2.o⟩
   unfold Hid
   rcases a with _ | ⟨b, o, sp⟩
   ·simpa [baseOf] using (HS.o.2.2 rfl).symm
   ·by_cases h0 : 0 < kids.length
    ·obtain ⟨b', o', he, -⟩ := HKA.o h0
     cases he
     simpa [baseOf] using (HS.o.2.1 b o rfl).symm
    ·have hnil : kids = [] := by cases kids <;> simp_all
     subst hnil
     have := HS.o.1
     unfold segP segsP at this
     simp at this
     simp [segsP, this]
  case round =>
   obtain ⟨k, dn, C2, hk', rfl, HD, hEr, hjr, HC2, HC2W, HWS⟩ := hrel
   have HER := lh hEr; clear hEr HE2 hj2
   by_cases hlt : k < kids.length
   ·obtain ⟨b, o, rfl, hbn, hts⟩ := HKA.o (by omega)
    obtain ⟨c0, c1, c2, c3, g0, g1, g2, g3, ht⟩ := PtsAt.get kids b o hts k hlt
    have q0 := (HER.o.below.cell (p := ⟨b, _, none⟩) hbn).trans g0
    have q1 := (HER.o.below.cell (p := ⟨b, _, none⟩) hbn).trans g1
    have q2 := (HER.o.below.cell (p := ⟨b, _, none⟩) hbn).trans g2
    have q3 := (HER.o.below.cell (p := ⟨b, _, none⟩) hbn).trans g3
    have hsg : segsP W0 (d + 1) (kids.drop k) b (o + k * 4) = segP W0 (d + 1) kids[k] (.agg #[c0, c1, c2, c3]) ++ segsP W0 (d + 1) (kids.drop (k + 1)) b (o + (k + 1) * 4) := by
     rw [segsP_drop W0 (d + 1) kids k b o hlt]; simp [cellAt, g0, g1, g2, g3]
    clear g0 g1 g2 g3
    have HSG := lh hsg; clear hsg
    obtain ⟨oo, nn, tt, ka, kn, kc, rfl, rfl, rfl, rfl⟩ := ht.shape
    have hh := heightsP_get kids k hlt
    have hEa := HER.o.kept hn (S := fun _ => False) (fun k h => h.elim) hBy hBk (.alloc wr (.cells #[.int .i64 oo, .int .i64 nn, .string tt, .slice ka kn kc] 35))
    have hja := hJ _ _ _ _ hjr ((Below.refl _ _).alloc (Nat.le_refl _) (.cells #[.int .i64 oo, .int .i64 nn, .string tt, .slice ka kn kc] 35))
    have cK := cell_box (j := 0) hEa.boxK
    have HEA := lh hEa; clear hEa
    gi_wp2_with fail
    refine ⟨by simp [Fence.wide], by simp [Fence.wide], ?_⟩
    refine (HIH.o _ (kid_ltP k hlt) kids[k] rfl _ (d + 1) (pre ++ ⟨d, .mk op n text kids, .agg #[.int .i64 op, .int .i64 n, .string text, .slice (some ⟨b, o, none⟩) kids.length cap]⟩ :: dn) (segsP W0 (d + 1) (kids.drop (k + 1)) b (o + (k + 1) * 4) ++ post) C2 _ ?_ ht HEA.o (fun k h => ⟨by have := (HC2.o k h).1; simp; omega, (HC2.o k h).2⟩) hja (by omega) (by omega)).mono ?_
    ·have := HD.o
     simp only [baseOf] at this
     rw [HX.o, HS.o.1, ← this, HSG.o]; simp
    rintro e W3 (⟨rfl, ⟨C3, hC3, hj3⟩, hgw, hE3⟩ | ⟨rfl, hjx⟩ | ⟨ch, rfl, hjp⟩)
    ·simp at hgw
     have HE3 := lh hE3; have HC3 := lh hC3; have HGW := lh hgw; clear hE3 hC3 hgw
     gi_wp2
     go_roundw
     case rel =>
      have hdo := HD.o
      simp only [baseOf] at hdo
      refine ⟨k + 1, dn ++ segP W0 (d + 1) kids[k] _, C3, by omega, by go_num, ?_, HE3.o, by simpa using hj3, ?_, ?_, by have := HWS.out; have := HGW.out; unfold Hid; omega⟩ <;> unfold Hid
      ·simp only [baseOf]; rw [← hdo, HSG.o]; simp
      ·intro k h
       have hgw := HGW.o
       rcases HC3.o k h with h | h
       ·exact ⟨by have := (HC2.o k h).1; omega, (HC2.o k h).2⟩
       ·have h2 := h.1
        simp at h2
        have h3 := lt_of_block HER.o.boxY
        have h4 := lt_of_block HER.o.boxK
        have h5 := HER.o.size
        exact ⟨h.2, by omega, by omega, by omega, by omega⟩
      ·intro k h
       have hgw := HGW.o
       rcases HC3.o k h with h | h
       ·exact (HC2W.o k h).imp id fun hh => ⟨hh.1, by omega⟩
       ·have h2 := h.1
        simp at h2
        have := HWS.o
        exact .inr ⟨by omega, h.2⟩
     case measure => simp [intOf]; omega
    ·gi_wp2
     go_ret
     exact .inr (.inl ⟨rfl, hjx⟩)
    ·gi_wp2
     exact ⟨rfl, .inr (.inr ⟨ch, rfl, hjp⟩)⟩
   ·gi_wp2
    go_ret
    refine .inl ⟨rfl, ⟨C2, HC2W.o, ?_⟩, HWS.o, HER.o⟩
    have h1 : dn = seg := by have := HD.out; rw [List.drop_eq_nil_of_le (by omega)] at this; simpa [segsP] using this
    rw [HS.o.1, ← h1]
    exact hjr
 ·gi_wp2
  go_ret
  exact .inr (.inl ⟨rfl, hjx⟩)
 ·gi_wp2
  exact ⟨rfl, .inr (.inr ⟨ch, rfl, hjp⟩)⟩
set_option maxHeartbeats 2000000 in
set_option maxRecDepth 100000 in
theorem iterPC {n₀ : Nat} {w : World} {T : Pt} {cs : Array Value} {Bt Bw : Nat} (hT : PtAt n₀ w T (.agg cs)) (hn : n₀ ≤ w.heap.size) (hBt : w.heap[Bt]? = some (.cells cs 35 (0, 0))) (hBw : w.heap[Bw]? = some (.cells #[.func (.func 87) #[] #[]] 103 (0, 0)))
  (hht : heightP T ≤ 1000) :
  IterC Tryz.prog 124 #[.pointer (some ⟨Bw, 0, none⟩), .pointer (some ⟨Bt, 0, none⟩)] encP (segP w 1 T (.agg cs)) (fun k => k < n₀ ∨ k = Bw ∨ k = Bt) w := by
 intro l J Jx Jp W C0 hW hC hJ hY h0
 have hwk := walkPC l J Jx Jp n₀ w W (Nat.le_trans hn hW.size) W.heap.size Bw (W.heap.size + 1)
  (by have := lt_of_block hBw; have := hW.size; omega) (Nat.le_refl _) (Nat.le_succ _) hJ (segP w 1 T (.agg cs)) hY T (.agg cs) 1 [] [] C0
  ((W.alloc (.cells #[.func (.yield l) #[] #[]] 142)).alloc (.cells #[.func (.func 125) #[] #[.pointer (some ⟨W.heap.size, 0, none⟩), .pointer (some ⟨Bw, 0, none⟩), .pointer (some ⟨W.heap.size + 1, 0, none⟩)]] 142))
  (by simp) hT
  ⟨by simp; omega, (hW.mono hn).trans ((((Below.refl _ W).alloc (Nat.le_trans hn hW.size) _).alloc (by simp; have := hW.size; omega) _)),
   by rw [Below.heap_alloc _ _ _ (by simp)]; exact heap_alloc_new _ _,
   by rw [Below.heap_alloc _ _ _ (by have := (Array.getElem?_eq_some_iff.1 (bget' hW hBw)).1; simp; omega), Below.heap_alloc _ _ _ (Array.getElem?_eq_some_iff.1 (bget' hW hBw)).1]; exact bget' hW hBw,
   by have := heap_alloc_new (W.alloc (.cells #[.func (.yield l) #[] #[]] 142)) (.cells #[.func (.func 125) #[] #[.pointer (some ⟨W.heap.size, 0, none⟩), .pointer (some ⟨Bw, 0, none⟩), .pointer (some ⟨W.heap.size + 1, 0, none⟩)]] 142); simpa using this⟩
  (fun k hk => ⟨by have := (hC k hk).1; simp; omega, by have := (hC k hk).2; omega, fun e => (hC k hk).2 (.inr (.inl e)), by have := (hC k hk).1; omega, by have := (hC k hk).1; omega⟩)
  (hJ _ _ _ _ h0 ((((Below.refl _ W).alloc (Nat.le_refl _) _).alloc (by simp) _))) (by omega) (by omega)
 have HWK := lh hwk; clear hwk
 have hbt := bget' hW hBt
 have hle : Bt < W.heap.size := (Array.getElem?_eq_some_iff.1 hbt).1
 cases T with
 | mk op n text kids =>
 have hsh := hT
 unfold PtAt at hsh
 obtain ⟨kv, h1, h2, h3⟩ := hsh
 cases h1
 have e0 : W.cell? ⟨Bt, 0, none⟩ = some (.int .i64 op) := cell_box hbt
 have e1 : W.cell? ⟨Bt, 1, none⟩ = some (.int .i64 n) := cell_box hbt
 have e2 : W.cell? ⟨Bt, 2, none⟩ = some (.string text) := cell_box hbt
 have e3 : W.cell? ⟨Bt, 3, none⟩ = some kv := cell_box hbt
 clear h2 h3 hbt
 refine callsIn_of_wp Tryz.func124 rfl trivial ?_ rfl
 simp only [Tryz.ntmps124, List.size_toArray, List.length_cons, List.length_nil, Nat.reduceAdd, Nat.reduceSub, Array.replicate_succ, Array.replicate_zero, List.push_toArray, List.append_toArray, List.nil_append, List.cons_append]
 gi_wp2_with fail
 refine ⟨trivial, rfl, ?_⟩
 refine (HWK.o).mono ?_
 rintro e W3 (⟨rfl, ⟨C3, -, hj3⟩, -, -⟩ | ⟨rfl, hjx⟩ | ⟨ch, rfl, hjp⟩)
 ·gi_wp2
  go_end0
  exact .inl ⟨⟨_, rfl⟩, .inl ⟨C3, by simpa using hj3⟩⟩
 ·gi_wp2
  go_end0
  exact .inl ⟨⟨_, rfl⟩, .inr hjx⟩
 ·gi_wp2
  exact ⟨rfl, .inr ⟨ch, rfl, hjp⟩⟩
end Go.Proofs.YtjpahjfjpkbcnaaGreat
namespace Go.Proofs.YtjpahjfjpkbcnaaGreat
open Go.Proofs Go.RowKit
def bodyQC {α : Type} (C : Nat → Prop) (I : List α → (Nat → Prop) → World → Prop) (Ix : Code → World → Prop) (Ip : List PanicEntry → World → Prop) (xs : List α) (W : World) : Exit → Act → World → Prop
 | .normal, _, W' => Kept C W W' ∧ ∃ C', (∀ k, C' k → C k ∨ (W.heap.size ≤ k ∧ k < W'.heap.size)) ∧ I xs C' W'
 | .ret, _, W' => Kept C W W' ∧ Ix .ret W'
 | .exit id, _, W' => Kept C W W' ∧ Ix (.exit id) W'
 | .goto t, _, W' => Kept C W W' ∧ Ix (.goto t) W'
 | .panic ch, a, W' => a.defers = [] ∧ Kept C W W' ∧ Ip ch W'
 | .outgrown, _, _ => False
variable {P : Program}
set_option maxHeartbeats 1000000 in
theorem wpF_rangeC {α : Type} {fn₀ : FuncId} {fn : Func} (hfn : P.funcs[fn₀]? = some fn) {g : Operand} {ps : Array Tmp} {assign body : Code} {Q : Exit → Act → World → Prop} {a : Act} {w : World}
  {gf : Nat} {lb : Array Value} (hg : a.eval g = .func (.func gf) #[] lb) (eg : ∀ args w, (callFunc gf args).run P w = .ok (.enter gf args) w)
  {encs : α → Array Value} {xs : List α} {D : Nat → Prop} {w0 : World} (hseq : IterC P gf lb encs xs D w0) (hb0 : Below w0.heap.size w0 w) (hps : ∀ x, (encs x).size = ps.size)
  (C0 : Nat → Prop) (hC : ∀ k, C0 k → k < w.heap.size ∧ ¬ D k) (hD : ∀ k, D k → k < w.heap.size)
  (I : List α → (Nat → Prop) → World → Prop) (Ix : Code → World → Prop) (Ip : List PanicEntry → World → Prop)
  (hI : ∀ pre C S W1 W2, I pre C W1 → Kept S W1 W2 → (∀ k, S k → w.heap.size ≤ k ∧ ¬ C k) → I pre C W2) (hIx : ∀ c W1 W2, Ix c W1 → Below w.heap.size W1 W2 → Ix c W2)
  (h0 : I [] C0 w)
  (hround : ∀ (l : Nat) (pre : List α) (x : α) (post : List α) (C : Nat → Prop) (W : World), w.heap.size < l → l < W.heap.size → xs = pre ++ x :: post → I pre C W → (∀ k, C k → k < W.heap.size ∧ k ≠ l ∧ k ≠ w.heap.size) →
   assign.wpIn (Fence.wide.inRound l) 0 P (Exit.then (fun a₁ W1 => Below W.heap.size W W1 ∧ ∀ W2, Kept (· = l) W1 W2 → W2.heap.size = W1.heap.size → body.wpIn (Fence.wide.inRound l) 0 P (bodyQC C I Ix Ip (pre ++ [x]) W2) a₁ W2) (fun _ _ _ => False))
    { tmps := (ps.zip (encs x)).foldl (fun t (p, v) => t.setIfInBounds p v) a.tmps, defers := [] } W)
  (hdone : ∀ (E : Nat) (C : Nat → Prop) (W : World), w.heap.size ≤ E → ¬ C E → I xs C W → W.heap[E]? = some (.deferred (some [])) → Q .normal { a with defers := markOf E :: a.defers } W)
  (hstop : ∀ (E : Nat) (c : Code) (W : World), w.heap.size ≤ E → Ix c W → W.heap[E]? = some (.deferred (some [])) → c.wpIn Fence.wide 0 P Q { a with defers := markOf E :: a.defers } W)
  (hpanic : ∀ (E : Nat) (ch : List PanicEntry) (W : World), w.heap.size ≤ E → Ip ch W → W.heap[E]? = some (.deferred (some [])) → Q (.panic ch) { a with defers := markOf E :: a.defers } W) :
  wpF P fn₀ (Code.rangeFunc g ps assign body) Q a w := by
 intro b k cs hbf hro
 obtain ⟨rec, hrec⟩ : ∃ rec : LoopState → Option Code → Loop, rec = fun st pe => { state := st, pending := pe, fn := fn₀, tmps := a.tmps, params := ps, assign, body, defers := w.heap.size } := ⟨_, rfl⟩
 obtain ⟨W1, hW1⟩ : ∃ W1, (w.alloc (.deferred (some []))).alloc (.loop (rec .ready none)) = W1 := ⟨_, rfl⟩
 have hsz1 : W1.heap.size = w.heap.size + 2 := by rw [← hW1]; simp
 have hL1 : W1.heap[w.heap.size + 1]? = some (.loop (rec .ready none)) := by
  rw [← hW1]; have := heap_alloc_new (w.alloc (.deferred (some []))) (.loop (rec .ready none)); rwa [World.size_alloc] at this
 have hK1 : W1.heap[w.heap.size]? = some (.deferred (some [])) := by
  rw [← hW1]; exact (Below.heap_alloc _ _ _ (by simp)).trans (heap_alloc_new w _)
 have hBW : Below w.heap.size w W1 := by rw [← hW1]; exact (((Below.refl _ w).alloc (Nat.le_refl _) _).alloc (by simp) _)
 have hb1 : Below w0.heap.size w0 W1 := hb0.trans (hBW.mono hb0.size)
 have hrounds : CallsIn Fence.wide 0 P gf (#[.func (.yield (w.heap.size + 1)) #[] #[]] ++ lb) W1 (rangePost Fence.wide 0 P (w.heap.size + 1) Q { a with defers := markOf w.heap.size :: a.defers }) := by
  refine (hseq (w.heap.size + 1)
   (fun pre C W => ∃ C₁ : Nat → Prop, (∀ k, C₁ k → C k ∧ k < W.heap.size ∧ k ≠ w.heap.size + 1 ∧ k ≠ w.heap.size) ∧ C (w.heap.size + 1) ∧ I pre C₁ W ∧ W.heap[w.heap.size + 1]? = some (.loop (rec .ready none)) ∧ W.heap[w.heap.size]? = some (.deferred (some [])))
   (fun W => ∃ c, Ix c W ∧ W.heap[w.heap.size + 1]? = some (.loop (rec .done (some c))) ∧ W.heap[w.heap.size]? = some (.deferred (some [])))
   (fun ch W => Ip ch W ∧ W.heap[w.heap.size]? = some (.deferred (some [])))
   W1 (fun k => C0 k ∨ k = w.heap.size + 1) hb1 ?_ ?_ ?_ ⟨C0, fun k h => ⟨.inl h, by have := (hC k h).1; omega, by have := (hC k h).1; omega, by have := (hC k h).1; omega⟩, .inr rfl,
    hI [] C0 (fun k => w.heap.size ≤ k) _ _ h0 (.of_below hBW) (fun k h => ⟨h, fun hc => by have := (hC k hc).1; omega⟩), hL1, hK1⟩).mono ?_
  ·rintro k (hk | rfl)
   ·exact ⟨by have := (hC k hk).1; omega, (hC k hk).2⟩
   ·exact ⟨by omega, fun hd => by have := hD _ hd; omega⟩
  ·rintro pre C A B ⟨C₁, hc1, hcl, hi, hl, hk⟩ hAB
   exact ⟨C₁, fun k h => ⟨(hc1 k h).1, Nat.lt_of_lt_of_le (hc1 k h).2.1 hAB.size, (hc1 k h).2.2⟩, hcl, hI pre C₁ (fun _ => False) _ _ hi (.of_below hAB) (fun k h => h.elim), bget' hAB hl, bget' hAB hk⟩
  ·rintro pre x post C W hx ⟨C₁, hc1, hcl, hi, hl, hk⟩
   have hlt : w.heap.size + 1 < W.heap.size := (Array.getElem?_eq_some_iff.1 hl).1
   have hy := run_yield (P := P) (args := encs x) hl (by rw [hrec]; exact hps x)
   rw [hrec] at hy
   refine ⟨fn₀, _, assign, body, hy, roundIn_of_wpInP hfn (wpIn_mono (hround (w.heap.size + 1) pre x post C₁ W (by omega) hlt hx hi fun k h => (hc1 k h).2) ?_)⟩
   rintro e a₁ Wa hp
   cases e with
   | normal =>
    obtain ⟨hWa, hbd⟩ := hp
    have hla := bget' hWa hl
    have hka := bget' hWa hk
    refine ⟨_, run_beginRound hla (by rw [hrec]), ?_⟩
    have hkb := Kept.putObj (S := (· = w.heap.size + 1)) Wa rfl (.loop { rec .ready none with state := .busy })
    refine wpIn_mono (hbd _ hkb (by simp)) ?_
    have hl2 : (Wa.putObj (w.heap.size + 1) (.loop { rec .ready none with state := .busy })).heap[w.heap.size + 1]? = some (.loop { rec .ready none with state := .busy }) := World.putObj_heap_same (Array.getElem?_eq_some_iff.1 hla).1
    have hk2 := hkb.get hka (by omega)
    have hns : ¬ C₁ (w.heap.size + 1) := fun h => (hc1 _ h).2.2.1 rfl
    have hnk : ¬ C₁ w.heap.size := fun h => (hc1 _ h).2.2.2 rfl
    have hlead : Kept C W (Wa.putObj (w.heap.size + 1) (.loop { rec .ready none with state := .busy })) := (Kept.of_below hWa).trans (hkb.mono fun k h => by cases h; exact hcl)
    have hsz2 : W.heap.size ≤ (Wa.putObj (w.heap.size + 1) (.loop { rec .ready none with state := .busy })).heap.size := hlead.size
    have fin : ∀ (jump : Option Code) (W3 : World), Kept C₁ (Wa.putObj (w.heap.size + 1) (.loop { rec .ready none with state := .busy })) W3 →
      (Instr.endRound (w.heap.size + 1) jump).run P W3 = .ok (.bool jump.isNone) (W3.putObj (w.heap.size + 1) (.loop (rec (if jump.isNone then .ready else .done) jump))) ∧
      (W3.putObj (w.heap.size + 1) (.loop (rec (if jump.isNone then .ready else .done) jump))).heap[w.heap.size + 1]? = some (.loop (rec (if jump.isNone then .ready else .done) jump)) ∧
      (W3.putObj (w.heap.size + 1) (.loop (rec (if jump.isNone then .ready else .done) jump))).heap[w.heap.size]? = some (.deferred (some [])) ∧
      Kept C W (W3.putObj (w.heap.size + 1) (.loop (rec (if jump.isNone then .ready else .done) jump))) := fun jump W3 hk3 => by
     have hl3 := hk3.get hl2 hns
     have hh := run_endRound (P := P) jump hl3
     rw [hrec] at hh ⊢
     refine ⟨hh, World.putObj_heap_same (Array.getElem?_eq_some_iff.1 hl3).1, (World.putObj_heap_other (by omega)).trans (hk3.get hk2 hnk), ?_⟩
     rw [hrec] at hlead hk3
     exact (hlead.trans (hk3.mono fun k h => (hc1 k h).1)).trans (Kept.putObj _ hcl _)
    rintro e a3 W3 hp
    cases e with
    | normal =>
     obtain ⟨hk3, C₂, hc2, hi3⟩ := hp
     obtain ⟨hr, hl4, hk4, hkk⟩ := fin none W3 hk3
     have hs3 := hk3.size
     have hszW := hWa.size
     simp at hs3
     replace hc2 : ∀ k, C₂ k → C₁ k ∨ (Wa.heap.size ≤ k ∧ k < W3.heap.size) := by simpa using hc2
     have hc2' : ∀ k, C₂ k → (C k ∨ (W.heap.size ≤ k ∧ k < W3.heap.size)) ∧ k < W3.heap.size ∧ k ≠ w.heap.size + 1 ∧ k ≠ w.heap.size := fun k h => by
      rcases hc2 k h with h | h
      ·have := hc1 k h
       exact ⟨.inl this.1, by omega, this.2.2⟩
      ·exact ⟨.inr ⟨by omega, h.2⟩, h.2, by omega, by omega⟩
     refine ⟨_, _, hr, hkk, .inl ⟨rfl, fun k => C₂ k ∨ k = w.heap.size + 1, ?_, C₂, ?_, .inr rfl, hI _ _ (· = w.heap.size + 1) _ _ hi3 (Kept.putObj (S := (· = w.heap.size + 1)) _ rfl _) ?_, hl4, hk4⟩⟩
     ·rintro k (h | rfl)
      ·exact (hc2' k h).1.imp id fun hh => ⟨hh.1, by simpa using hh.2⟩
      ·exact .inl hcl
     ·intro k h
      exact ⟨.inl h, by simpa using (hc2' k h).2.1, (hc2' k h).2.2⟩
     ·rintro k rfl
      exact ⟨by omega, fun h => (hc2' _ h).2.2.1 rfl⟩
    | ret =>
     obtain ⟨hk3, hi3⟩ := hp
     obtain ⟨hr, hl4, hk4, hkk⟩ := fin (some .ret) W3 hk3
     exact ⟨_, _, hr, hkk, .inr (.inl ⟨rfl, .ret, hIx _ _ _ hi3 (below_putObj _ (by omega) _), hl4, hk4⟩)⟩
    | exit id =>
     obtain ⟨hk3, hi3⟩ := hp
     obtain ⟨hr, hl4, hk4, hkk⟩ := fin (some (.exit id)) W3 hk3
     exact ⟨_, _, hr, hkk, .inr (.inl ⟨rfl, .exit id, hIx _ _ _ hi3 (below_putObj _ (by omega) _), hl4, hk4⟩)⟩
    | goto t =>
     obtain ⟨hk3, hi3⟩ := hp
     obtain ⟨hr, hl4, hk4, hkk⟩ := fin (some (.goto t)) W3 hk3
     exact ⟨_, _, hr, hkk, .inr (.inl ⟨rfl, .goto t, hIx _ _ _ hi3 (below_putObj _ (by omega) _), hl4, hk4⟩)⟩
    | panic ch =>
     obtain ⟨hd, hk3, hi3⟩ := hp
     exact ⟨hd, hlead.trans (hk3.mono fun k h => (hc1 k h).1), .inr (.inr ⟨ch, rfl, hi3, hk3.get hk2 hnk⟩)⟩
    | outgrown => exact hp.elim
   | exit id => exact hp.elim
   | goto t => exact hp.elim
   | ret => exact hp.elim
   | panic ch => exact hp.elim
   | outgrown => exact hp.elim
  ·rintro e W2 (⟨⟨v, rfl⟩, (⟨C, C₁, hc1, hcl, hi, hl, hk⟩ | ⟨c, hi, hl, hk⟩)⟩ | ⟨ch, rfl, hi, hk⟩)
   ·exact ⟨none, _, by have := run_endLoop (P := P) hl (by rw [hrec]; simp); rw [hrec] at this; exact this, hdone _ C₁ _ (Nat.le_refl _) (fun h => (hc1 _ h).2.2.2 rfl)
     (hI _ _ (· = w.heap.size + 1) _ _ hi (Kept.putObj (S := (· = w.heap.size + 1)) _ rfl _) (by rintro k rfl; exact ⟨by omega, fun h => (hc1 _ h).2.2.1 rfl⟩)) ((World.putObj_heap_other (by omega)).trans hk)⟩
   ·exact ⟨some c, _, by have := run_endLoop (P := P) hl (by rw [hrec]; simp); rw [hrec] at this; exact this, hstop _ c _ (Nat.le_refl _) (hIx _ _ _ hi (below_putObj _ (by omega) _)) ((World.putObj_heap_other (by omega)).trans hk)⟩
   ·exact hpanic _ ch _ (Nat.le_refl _) hi hk
 have he : (Instr.enterLoop b.fn a.tmps ps assign body b.roundOf).run P w = .ok (w.heap.size + 1, [markOf w.heap.size]) W1 := by
  rw [hro, hbf, ← hW1, hrec]; exact run_enterLoop_outer _ _ _ _ _
 have hres : (resolve a.eval (rangeCall g (w.heap.size + 1)) 0).run P W1 = .ok { target := .fn (.func gf) lb, args := #[.func (.yield (w.heap.size + 1)) #[] #[]] } W1 := by
  simp only [resolve, hg]
  simp [go_sem]
 have hinv : (invoke (.fn (.func gf) lb) #[.func (.yield (w.heap.size + 1)) #[] #[]]).run P W1 = .ok (.enter gf (#[.func (.yield (w.heap.size + 1)) #[] #[]] ++ lb)) W1 := by
  simp [invoke, go_sem, eg]
 have henter := stepR_rangeFunc (P := P) (b := b) (a := a) (k := k) (cs := cs) (w := w) he hres hinv
 obtain ⟨e, w₃, fr, hR, hsteps, hfn', hleave⟩ := hrounds.2 (b.atR { a with defers := [markOf w.heap.size] ++ a.defers } (.inRangeFunc (w.heap.size + 1) :: k) :: cs) (room_wide _)
 cases e with
 | outgrown =>
  obtain ⟨a₀, w₀, hq⟩ := hR
  exact ⟨.outgrown, a₀, w₀, hq, .inr (Outgrown.of_steps (.one henter) hsteps)⟩
 | returned v =>
  obtain ⟨jump, w₄, hend, hj⟩ := hR
  have sback : StepsIn (Machine.fenced P Fence.wide) P (lone (b.atR a (.code (.rangeFunc g ps assign body) :: k)) cs w) (lone (b.atR { a with defers := [markOf w.heap.size] ++ a.defers } ((jump.map Item.code).toList ++ k)) cs w₄) := by
   refine .head (fenced_wide _ _) henter (StepsIn.trans hsteps (.head (fenced_wide _ _) ?_ (.one (fenced_wide _ _) (stepR_endRangeFunc hend))))
   rw [← finish_atR_inRangeFunc (w.heap.size + 1) v]; exact step_leave_returned hleave
  cases jump with
  | none => exact ⟨.normal, _, w₄, hj, sback⟩
  | some c =>
   obtain ⟨e', a'', w₅, hq, harr⟩ := hj b k cs hro trivial (room_wide _)
   exact ⟨e', a'', w₅, hq, .of_steps sback harr⟩
 | panicked chain =>
  refine ⟨.panic chain, _, w₃, hR, .inRangeFunc (w.heap.size + 1) :: k, .head (fenced_wide _ _) henter (StepsIn.trans hsteps (.one (fenced_wide _ _) ?_))⟩
  rw [← Frame.raise_atR]; exact step_leave_panicked hleave
end Go.Proofs.YtjpahjfjpkbcnaaGreat
namespace Go.Proofs.YtjpahjfjpkbcnaaGreat
open Go.Proofs Go.RowKit
attribute [local go_sem] Oper.semAt_some
theorem ownsRow_of_block {w w' : World} {base : Nat} {e : TypeId} {size : Nat} {v : Value} {n : Nat} {xs : List Value} (h : w.ownsRow base e size v n xs) (hb : ∀ g, v.ownBlock = some g → w'.heap[g]? = w.heap[g]?) : w'.ownsRow base e size v n xs := by
 refine ⟨h.1, ?_⟩
 rcases h.2 with hn | ⟨g, cap, cur, rfl, h2, h3, h4⟩
 ·exact .inl hn
 ·exact .inr ⟨g, cap, cur, rfl, h2, (hb g rfl).trans h3, h4⟩
theorem slice_of_row {w : World} {base : Nat} {e : TypeId} {size : Nat} {v : Value} {n : Nat} {xs : List Value} (h : w.ownsRow base e size v n xs) : ∃ a cap, v = .slice a n cap := by
 rcases h.2 with ⟨rfl, rfl⟩ | ⟨g, cap, cur, rfl, -⟩
 ·exact ⟨_, _, rfl⟩
 ·exact ⟨_, _, rfl⟩
theorem one_grown {w w' : World} {base : Nat} {e : TypeId} {size : Nat} {v : Value} {n : Nat} {xs : List Value} {o o' : Obj} {k : Nat} (hgr : (w.alloc o).grownBy w' v.ownBlock) (hk : w.heap[k]? = some o') (hlt : k < w.heap.size) (hr : w.ownsRow base e size v n xs) (hb : k < base) : w'.heap[k]? = some o' := by
 refine (hgr.block k (by simp; omega) fun h => ?_).trans ((Below.heap_alloc _ _ _ hlt).trans hk)
 have := (hr.lt k h.symm).1
 omega
theorem kept_grown {C : Nat → Prop} {w w' : World} {o : Obj} {v : Value} (hgr : (w.alloc o).grownBy w' v.ownBlock) (hC : ∀ k, v.ownBlock = some k → C k) : Kept C w w' :=
 ⟨hgr.os, hgr.tape, hgr.output, by have := hgr.size; simp at this; omega, fun k hk hs => (hgr.block k (by simp; omega) (fun h => hs (hC k h.symm))).trans (Below.heap_alloc _ _ _ hk)⟩
def namesL (ps : List Pt) : List ByteArray := (ps.filter fun p => decide (p.form = 2)).map (·.text)
def namesP (p : Pt) : List ByteArray := namesL ((partsP 1 p).map (·.2))
theorem namesL_snoc (ps : List Pt) (p : Pt) : namesL (ps ++ [p]) = if p.form = 2 then namesL ps ++ [p.text] else namesL ps := by
 unfold namesL
 by_cases h : p.form = 2 <;> simp [h]
theorem namesL_len (ps : List Pt) : (namesL ps).length ≤ ps.length := by
 unfold namesL
 simpa using List.length_filter_le _ ps
theorem strs_of_row {w : World} : ∀ (ss : List ByteArray) (b o : Nat), (∀ s ∈ ss, s.size ≤ maxLen) → (∀ i u, (ss.map Value.string)[i]? = some u → w.cell? ⟨b, o + i, none⟩ = some u) → StrsAt w ss b o
 | [], _, _, _, _ => trivial
 | s :: ss, b, o, hs, h => ⟨⟨by simpa using h 0 (.string s) rfl, hs s (List.mem_cons_self)⟩, strs_of_row ss b (o + 1) (fun x hx => hs x (List.mem_cons_of_mem _ hx)) fun i u hu => by
   have := h (i + 1) u (by simpa using hu)
   rwa [show o + (i + 1) = o + 1 + i by omega] at this⟩
theorem string_one (ss : List ByteArray) : ∀ u ∈ ss.map Value.string, u.oneCell' = true := by
 intro u hu; obtain ⟨s, -, rfl⟩ := List.mem_map.1 hu; rfl
theorem Tz.underlying22 : Tryz.prog.underlying 22 = some (.slice 9) := by kernel_rfl
set_option maxHeartbeats 4000000 in
set_option maxRecDepth 100000 in
theorem namesOf_any (n₀ : Nat) (p : Pt) (v : Value) (w : World) (hp : PtAt n₀ w p v) (hn : n₀ ≤ w.heap.size) (hh : heightP p ≤ 1000) (hl : (partsP 1 p).length ≤ 1000000) :
  CallsIn Fence.wide 0 Tryz.prog 72 #[v] w fun e w' => (∃ v', e = .returned v' ∧ SlIn (Fresh w w') v' (namesP p).length fun b o => StrsAt w' (namesP p) b o) ∧ Below w.heap.size w w' := by
 obtain ⟨i0, hi, hz0, hz1, hz2⟩ := info_parts Tz.info9
 have hp0 := hp
 obtain ⟨a, cap, rfl, htx⟩ := hp.parts
 refine calls_of_wpF Tryz.func72 rfl ?_
 simp only [Tryz.ntmps72, List.size_toArray, List.length_cons, List.length_nil, Nat.reduceAdd, Nat.reduceSub, Array.replicate_succ, Array.replicate_zero, List.push_toArray, List.append_toArray, List.nil_append, List.cons_append]
 refine wpF_seq ?_
 intro K hK
 refine wpF_of (n := 0) ?_
 gi_wp2
 refine wpF_seq ?_
 intro K hK
 refine wpF_of (n := 0) ?_
 gi_wp2
 have hbW : Below w.heap.size w ((w.alloc (.cells #[.int .i64 p.form, .int .i64 p.n, .string p.text, .slice a p.parts.length cap] 35)).alloc (.cells #[.slice none 0 0] 22)) := ((Below.refl _ w).alloc (Nat.le_refl _) _).alloc (by simp) _
 have hsW : ((w.alloc (.cells #[.int .i64 p.form, .int .i64 p.n, .string p.text, .slice a p.parts.length cap] 35)).alloc (.cells #[.slice none 0 0] 22)).heap.size = w.heap.size + 2 := by simp
 have hoW : ((w.alloc (.cells #[.int .i64 p.form, .int .i64 p.n, .string p.text, .slice a p.parts.length cap] 35)).alloc (.cells #[.slice none 0 0] 22)).heap[w.heap.size + 1]? = some (.cells #[.slice none 0 0] 22 (0, 0)) := by
  have := heap_alloc_new (w.alloc (.cells #[.int .i64 p.form, .int .i64 p.n, .string p.text, .slice a p.parts.length cap] 35)) (.cells #[.slice none 0 0] 22); simpa using this
 have hBW : ((w.alloc (.cells #[.int .i64 p.form, .int .i64 p.n, .string p.text, .slice a p.parts.length cap] 35)).alloc (.cells #[.slice none 0 0] 22)).heap[w.heap.size]? = some (.cells #[.int .i64 p.form, .int .i64 p.n, .string p.text, .slice a p.parts.length cap] 35 (0, 0)) := by
  rw [Below.heap_alloc _ _ _ (by simp)]; exact heap_alloc_new _ _
 generalize ((w.alloc (.cells #[.int .i64 p.form, .int .i64 p.n, .string p.text, .slice a p.parts.length cap] 35)).alloc (.cells #[.slice none 0 0] 22)) = W at *
 obtain ⟨c0, c1, c2, c3⟩ := cells4 hBW
 have HSW := lh hsW; have HOW := lh hoW
 clear hsW hoW hBW
 refine wpF_seq ?_
 intro K hK
 refine wpF_seq ?_
 intro K2 hK2'
 refine wpF_of (n := 0) ?_
 gi_wp2_with fail
 refine ⟨trivial, rfl, (callsIn_wide.2 (partsP_any W p.form p.n p.text (.slice a p.parts.length cap))).mono ?_⟩
 rintro e W2 ⟨rfl, hW2⟩
 have hs2 : W2.heap.size = w.heap.size + 4 := by rw [hW2]; simp [HSW.o]
 have hbWW : Below W.heap.size W W2 := by rw [hW2]; exact ((Below.refl _ W).alloc (Nat.le_refl _) _).alloc (by simp) _
 have hb2 : Below w.heap.size w W2 := hbW.trans (hbWW.mono hbW.size)
 have hT2 : W2.heap[W.heap.size]? = some (.cells #[.int .i64 p.form, .int .i64 p.n, .string p.text, .slice a p.parts.length cap] 35 (0, 0)) := by
  rw [hW2, Below.heap_alloc _ _ _ (by simp)]; exact heap_alloc_new _ _
 have hK2 : W2.heap[W.heap.size + 1]? = some (.cells #[.func (.func 87) #[] #[]] 103 (0, 0)) := by
  rw [hW2]; have := heap_alloc_new (W.alloc (.cells #[.int .i64 p.form, .int .i64 p.n, .string p.text, .slice a p.parts.length cap] 35)) (.cells #[.func (.func 87) #[] #[]] 103); simpa using this
 have hp2 : PtAt n₀ W2 p (.agg #[.int .i64 p.form, .int .i64 p.n, .string p.text, .slice a p.parts.length cap]) := PtAt.keep (hb2.mono hn) (Nat.le_refl _) _ _ hp
 clear hW2
 have hsegl : (segP W2 1 p (.agg #[.int .i64 p.form, .int .i64 p.n, .string p.text, .slice a p.parts.length cap])).length = (partsP 1 p).length := by
  rw [← segP_map W2 p 1 (.agg #[.int .i64 p.form, .int .i64 p.n, .string p.text, .slice a p.parts.length cap])]; simp
 have hsegn : namesL ((segP W2 1 p (.agg #[.int .i64 p.form, .int .i64 p.n, .string p.text, .slice a p.parts.length cap])).map (·.T)) = namesP p := by
  unfold namesP
  rw [← segP_map W2 p 1 (.agg #[.int .i64 p.form, .int .i64 p.n, .string p.text, .slice a p.parts.length cap])]; simp [Function.comp_def]
 have HSL := lh hsegl; have HSN := lh hsegn; have HHL := lh hl
 clear hsegl hsegn hl
 gi_wp2
 refine wpF_block ?_
 refine wpF_rangeC (fn := Tryz.f72) rfl (gf := 124) rfl (enters_of Tryz.func124 (by kernel_rfl) rfl) (w0 := W2) (iterPC hp2 (by omega) hT2 hK2 hh) (Below.refl _ _) (fun _ => rfl)
  (fun k => k = w.heap.size + 1) ?hC ?hD
  (fun pre C V => ∃ post vo, segP W2 1 p (.agg #[.int .i64 p.form, .int .i64 p.n, .string p.text, .slice a p.parts.length cap]) = pre ++ post ∧ V.heap[w.heap.size + 1]? = some (.cells #[vo] 22 (0, 0)) ∧
   V.ownsRow (w.heap.size + 4) 9 1 vo (namesL (pre.map (·.T))).length ((namesL (pre.map (·.T))).map Value.string) ∧ Hid (∀ k, C k ↔ k = w.heap.size + 1 ∨ vo.ownBlock = some k) ∧ Below w.heap.size w V ∧ w.heap.size + 4 ≤ V.heap.size ∧ Hid (∀ s ∈ namesL (pre.map (·.T)), s.size ≤ maxLen))
  (fun _ _ => False) (fun _ _ => False) ?hI ?hIx ?h0 ?hround ?hdone ?hstop ?hpanic
 case hC => have := HSW.out; rintro k rfl; refine ⟨by omega, ?_⟩; rintro (h | h | h) <;> omega
 case hD => have := HSW.out; rintro k (h | rfl | rfl) <;> omega
 case hI =>
  rintro pre C S V1 V2 ⟨post, vo, h1, h2, h3, h4, h5, h6, h7⟩ hV hS
  exact ⟨post, vo, h1, hV.get h2 (fun h => (hS _ h).2 ((h4.o _).2 (.inl rfl))), ownsRow_of_block h3 (fun g hg => hV.block g (h3.lt g hg).2 fun h => (hS _ h).2 ((h4.o _).2 (.inr hg))), h4, h5.trans (hV.below h5.size fun k h => by have := (hS _ h).1; omega), Nat.le_trans h6 hV.size, h7⟩
 case hIx => intro _ _ _ h; exact h.elim
 case h0 =>
  refine ⟨_, .slice none 0 0, (List.nil_append _).symm, bget hbWW HOW.o (by have := HSW.out; omega), World.ownsRow_nil _ _ _ _, ?_, hb2, by omega, ?_⟩
  ·unfold Hid; intro k; simp [Value.ownBlock]
  ·unfold Hid namesL; simp
 case hstop => intro _ _ _ _ h; exact h.elim
 case hpanic => intro _ _ _ _ h; exact h.elim
 case hdone =>
  rintro E C V hE hCE ⟨post, vo, h1, h2, h3, h4, h5, h6, h7⟩ hV
  have hpn : post = [] := by have := congrArg List.length h1; simp at this; exact this
  subst hpn
  refine hK _ _ ?_
  have co : V.cell? ⟨w.heap.size + 1, 0, none⟩ = some vo := cell_box h2
  obtain ⟨va, vc, rfl⟩ := slice_of_row h3
  have H3 := lh h3; have H1 := lh h1; have HV := lh hV; have H5 := lh h5
  clear h3 h1 hV h5 h2
  refine wpF_of (n := 0) ?_
  gi_wp2
  refine leavesM_mark (by simp) HV.o ?_
  have hr := ownsRow_of_block (w' := V.putObj E (.deferred none)) H3.o fun g hg => World.putObj_heap_other (by rintro rfl; exact hCE ((h4.o _).2 (.inr hg)))
  have h7' := h7.o
  rw [HSN.o] at hr h7'
  refine ⟨_, results_tmp rfl _ _ _, ⟨_, rfl, ?_⟩, H5.o.trans (below_putObj _ (by omega) _)⟩
  rw [HSN.o]
  exact owned_sl hr (fun b hb => ⟨by have := (hr.lt b hb).1; omega, (hr.lt b hb).2⟩) fun b hb hc => strs_of_row _ _ _ h7' hc
 case hround =>
  rintro l pre x post C V hl hlV hx ⟨post', vo, h1, h2, h3, h4, h5, h6, h7⟩ hCk
  obtain rfl : post' = x :: post := List.append_cancel_left (h1.symm.trans hx)
  have hxa := segP_at p _ 1 hp2 x (by rw [h1]; simp)
  have hlen : pre.length + 1 ≤ 1000000 := by have := HSL.out; have := HHL.out; rw [h1] at *; simp at *; omega
  obtain ⟨xd, xT, xv⟩ := x
  simp only at hxa
  obtain ⟨xa, xc, rfl, hxt⟩ := hxa.parts
  have hnl : (namesL (pre.map (·.T))).length ≤ pre.length := by simpa using namesL_len (pre.map (·.T))
  have HH1 := lh h1; have H2 := lh h2; have H3 := lh h3; have HCK := lh hCk
  clear h1 hx h2 h3 hxa hCk
  dsimp only [encP]
  simp only [List.zip_toArray, List.zip_cons_cons, List.zip_nil_right, List.foldl_toArray', List.foldl_cons, List.foldl_nil, List.setIfInBounds_toArray, List.set_cons_succ, List.set_cons_zero]
  gi_wp2
  refine ⟨(Below.refl _ _).alloc (Nat.le_refl _) _, fun V2 hk2 hz2 => ?_⟩
  have hbox := hk2.get (heap_alloc_new V (.cells #[.int .i64 xT.form, .int .i64 xT.n, .string xT.text, .slice xa xT.parts.length xc] 35)) (by omega)
  have hbV : Below V.heap.size V (V.alloc (.cells #[.int .i64 xT.form, .int .i64 xT.n, .string xT.text, .slice xa xT.parts.length xc] 35)) := (Below.refl V.heap.size V).alloc (Nat.le_refl _) _
  have ho2 := hk2.get (bget' hbV H2.o) (by omega)
  have hr2 : V2.ownsRow (w.heap.size + 4) 9 1 vo (namesL (pre.map (·.T))).length ((namesL (pre.map (·.T))).map Value.string) := ownsRow_of_block H3.o fun g hg => by
   have hgl := (H3.o.lt g hg).2
   exact (hk2.block g (by simp only [World.size_alloc]; exact Nat.lt_succ_of_lt hgl) fun e => (HCK.o g ((h4.o g).2 (.inr hg))).2.1 e).trans (hbV.block g hgl)
  have hB2 : Below w.heap.size V V2 := (hbV.mono h5.size).trans (hk2.below (by simp; have := h5.size; omega) (by rintro k rfl; omega))
  have hsz := hz2
  obtain ⟨b0, b1, b2, b3⟩ := cells4 hbox
  have co := cell_of_one ho2
  have fo := free_of_one ho2
  have HR2 := lh hr2; have HB2 := lh (h5.trans hB2); have HO2 := lh ho2; have HSZ := lh hsz
  clear hr2 ho2 hbox hsz hbV hB2 hz2
  have hnn := namesL_snoc (pre.map (·.T)) xT
  by_cases hf : xT.form = 2
  ·rw [if_pos hf] at hnn
   have HNN := lh hnn; clear hnn
   have hone := cells_new V2 [.string xT.text] 9
   have hrow := HR2.o.alloc (.cells #[.string xT.text] 9)
   have HONE := lh hone; have HROW := lh hrow
   clear hone hrow
   gi_wp2_with (gi_at_builtin; refine wpListIn_append_own_at _ rfl _ _ 22 rfl (w.heap.size + 4) 9 i0 _ 1 16 Tz.underlying22 hi hz0 hz1 hz2 rfl (by decide) vo _ _ rfl HROW.o ⟨V2.heap.size, 0, none⟩ 1 1 [.string xT.text] rfl rfl HONE.o (string_one [xT.text]) (by unfold maxLen; omega) (by omega) (by have := HSZ.out; simp; omega) ?_; intro v' w' hown' hgr hnil hat; have HOWN := lh hown'; have HGR := lh hgr; have HAT := lh hat; obtain ⟨va, vc, rfl⟩ := slice_of_row hown'; have hbo := one_grown hgr HO2.o (lt_of_block HO2.o) HR2.o (by omega); have co' := cell_of_one hbo; have fo' := free_of_one hbo; have HBO := lh hbo; clear hown' hgr hnil hat hbo)
   have hvC : ∀ k, vo.ownBlock = some k → C k := fun k hk => (h4.o k).2 (.inr hk)
   refine ⟨(kept_grown HGR.o hvC).trans (Kept.setCell (S := C) _ ((h4.o _).2 (.inl rfl)) _), fun k => k = w.heap.size + 1 ∨ (Value.slice va ((namesL (pre.map (·.T))).length + 1) vc).ownBlock = some k, ?_, ⟨⟨post, by rw [HH1.o, hf]; simp⟩, .slice va ((namesL (pre.map (·.T))).length + 1) vc, one_setCell HBO.o, ?_, ?_, ?_, ?_, ?_⟩⟩
   ·rintro k (rfl | hk)
    ·exact .inl ((h4.o _).2 (.inl rfl))
    ·have hl2 := (HOWN.o.lt k hk).2
     rcases HAT.o with he | he
     ·exact .inl (hvC k (he ▸ hk))
     ·rw [he] at hk
      simp at hk
      exact .inr ⟨by omega, by simpa using hl2⟩
   ·rw [List.map_append, List.map_cons, List.map_nil, HNN.o, List.length_append, List.map_append]
    exact ownsRow_setCell_below HOWN.o (by simp) _
   ·unfold Hid; intro k; rfl
   ·exact (HB2.o.trans ((kept_grown (C := fun k => w.heap.size ≤ k) HGR.o fun k hk => by have := (HR2.o.lt k hk).1; omega).below HB2.o.size fun k h => h)).trans ((Kept.setCell (S := fun k => w.heap.size ≤ k) _ (by simp) _).below (by have := HB2.o.size; have := (kept_grown (C := fun k => w.heap.size ≤ k) HGR.o fun k hk => by have := (HR2.o.lt k hk).1; omega).size; omega) fun k h => h)
   ·have := (kept_grown HGR.o hvC).size; have := HSZ.out; simp; omega
   ·unfold Hid
    rw [List.map_append, List.map_cons, List.map_nil, HNN.o]
    intro s hs
    rcases List.mem_append.1 hs with h | h
    ·exact h7.o s h
    ·simp at h; subst h; exact hxt
  ·rw [if_neg hf] at hnn
   have HNN := lh hnn; clear hnn
   gi_wp2
   refine ⟨Kept.refl _ _, C, fun k h => .inl h, ⟨⟨post, by rw [HH1.o]; simp⟩, vo, HO2.o, ?_, h4, HB2.o, by have := HSZ.out; omega, ?_⟩⟩
   ·rw [List.map_append, List.map_cons, List.map_nil, HNN.o]; exact HR2.o
   ·unfold Hid; rw [List.map_append, List.map_cons, List.map_nil, HNN.o]; exact h7.o
end Go.Proofs.YtjpahjfjpkbcnaaGreat
namespace Go.Proofs.YtjpahjfjpkbcnaaGreat
open Go.Proofs Go.RowKit
abbrev Sc := List (ByteArray × ByteArray)
def ScIn (B : Nat → Prop) (w : World) : Sc → Value → Prop
 | [], v => v = .pointer none
 | (n, s) :: sc, v => ∃ b v', v = .pointer (some ⟨b, 0, none⟩) ∧ B b ∧ w.cell? ⟨b, 0, none⟩ = some v' ∧ w.cell? ⟨b, 1, none⟩ = some (.string n) ∧ w.cell? ⟨b, 2, none⟩ = some (.string s) ∧ n.size ≤ maxLen ∧ s.size ≤ maxLen ∧ ScIn B w sc v'
theorem ScIn.keep {B B' : Nat → Prop} {w w' : World} (hB : ∀ b, B b → B' b ∧ w'.heap[b]? = w.heap[b]?) : ∀ (sc : Sc) (v : Value), ScIn B w sc v → ScIn B' w' sc v
 | [], _, h => h
 | (_, _) :: sc, _, ⟨b, v', h1, h2, h3, h4, h5, h6, h7, h8⟩ =>
  ⟨b, v', h1, (hB b h2).1, (World.cell?_of_block (hB b h2).2).trans h3, (World.cell?_of_block (hB b h2).2).trans h4, (World.cell?_of_block (hB b h2).2).trans h5, h6, h7, ScIn.keep hB sc v' h8⟩
def findS : Sc → ByteArray → Option ByteArray
 | [], _ => none
 | (n, s) :: sc, k => if n.toList == k.toList then some s else findS sc k
theorem ScIn.len_eq {B : Nat → Prop} {w : World} : ∀ (sc sc' : Sc) (v : Value), ScIn B w sc v → ScIn B w sc' v → sc.length = sc'.length
 | [], [], _, _, _ => rfl
 | [], _ :: _, _, h, ⟨_, _, h1, _⟩ => by unfold ScIn at h; rw [h] at h1; cases h1
 | _ :: _, [], _, ⟨_, _, h1, _⟩, h => by unfold ScIn at h; rw [h] at h1; cases h1
 | _ :: sc, _ :: sc', _, ⟨b, v', h1, h2, h3, h4, h5, h6, h7, h8⟩, ⟨b', v'', g1, g2, g3, g4, g5, g6, g7, g8⟩ => by
  rw [h1] at g1; cases g1
  rw [h3] at g3; cases g3
  simp [ScIn.len_eq sc sc' _ h8 g8]
open Classical in
noncomputable def scLen (B : Nat → Prop) (w : World) (v : Value) : Nat := if h : ∃ sc, ScIn B w sc v then (Classical.choose h).length else 0
theorem scLen_eq {B : Nat → Prop} {w : World} {sc : Sc} {v : Value} (h : ScIn B w sc v) : scLen B w v = sc.length := by
 have he : ∃ sc, ScIn B w sc v := ⟨sc, h⟩
 unfold scLen
 rw [dif_pos he]
 exact ScIn.len_eq _ _ _ (Classical.choose_spec he) h
set_option maxHeartbeats 1000000 in
theorem find_any (B : Nat → Prop) (sc : Sc) (k : ByteArray) (v : Value) (w : World) (h : ScIn B w sc v) :
  Calls Tryz.prog 143 #[v, .string k] w fun e w' => e = .returned (.tuple #[.string ((findS sc k).getD k), .bool (findS sc k).isSome]) ∧ w' = w := by
 go_enter Tryz.func143, Tryz.ntmps143
 go_wp2
 go_loopw [0] (fun u wr => wr = w ∧ ∃ sc', ScIn B w sc' u ∧ findS sc' k = findS sc k) (fun u _ => scLen B w u)
 case atStart => exact ⟨rfl, sc, h, rfl⟩
 case round =>
  obtain ⟨rfl, sc', hs, hf⟩ := hrel
  have hln := scLen_eq hs
  cases sc' with
  | nil =>
   unfold ScIn at hs
   subst hs
   have HF := lh hf
   clear hf
   go_wp2
   refine bodyPost_ret (v := .tuple #[.string k, .bool false]) (by simp [results, Tryz.results143, go_sem]) rfl ⟨?_, rfl⟩
   rw [← HF.o]; rfl
  | cons x sc' =>
   obtain ⟨n, s⟩ := x
   obtain ⟨b, v', rfl, hB, h3, h4, h5, h6, h7, h8⟩ := hs
   have hf' : (if n.toList == k.toList then some s else findS sc' k) = findS sc k := hf
   have HF := lh hf'; have H8 := lh h8; have HLN := lh hln
   clear hf hf' h8 hln
   by_cases hk : (n.toList == k.toList) = true
   ·go_wp2
    refine bodyPost_ret (v := .tuple #[.string s, .bool true]) (by simp [results, Tryz.results143, go_sem]) rfl ⟨?_, rfl⟩
    rw [← HF.o, if_pos hk]; rfl
   ·go_wp2
    go_roundw
    case rel => exact ⟨by first | rfl | trivial, sc', H8.o, by rw [← HF.o, if_neg hk]⟩
    case measure => rw [HLN.o, scLen_eq H8.o]; simp
theorem same_any (s : ByteArray) (w : World) : Calls Tryz.prog 142 #[.string s] w fun e w' => e = .returned (.string s) ∧ w' = w := by
 go_enter Tryz.func142, Tryz.ntmps142
 go_wp2
 go_ret
 exact ⟨rfl, rfl⟩
theorem ScIn.ptr {B : Nat → Prop} {w : World} {sc : Sc} {v : Value} (h : ScIn B w sc v) : ∃ p, v = .pointer p := by
 cases sc with
 | nil => exact ⟨_, h⟩
 | cons x sc => obtain ⟨b, v', h1, -⟩ := h; exact ⟨_, h1⟩
def pushS (ns outs : List ByteArray) (sc : Sc) : Sc := (ns.zip outs).reverse ++ sc
theorem pushS_snoc (ns outs : List ByteArray) (n s : ByteArray) (sc : Sc) (h : outs.length = ns.length) : pushS (ns ++ [n]) (outs ++ [s]) sc = (n, s) :: pushS ns outs sc := by
 unfold pushS
 rw [List.zip_append h.symm]
 simp
set_option maxHeartbeats 2000000 in
set_option maxRecDepth 100000 in
theorem with_any (M B : Nat → Prop) (J : List ByteArray → World → Prop) (g : FuncId) (caps : Array Value) (eg : ∀ args w, (callFunc g args).run Tryz.prog w = .ok (.enter g args) w)
  (names : List ByteArray) (sc : Sc) (vs nv : Value) (w : World) (hB : ∀ b, B b → b < w.heap.size ∧ ¬ M b) (hM : ∀ b, M b → b < w.heap.size)
  (hn : SlIn B nv names.length fun b o => StrsAt w names b o) (hs : ScIn B w sc vs) (hl : names.length ≤ 1000000)
  (hJ : ∀ outs W W', J outs W → Below W.heap.size W W' → J outs W') (h0 : J [] w)
  (hcall : ∀ (k : Nat) (hk : k < names.length) (outs : List ByteArray) (W : World), outs.length = k → names[k].size ≤ maxLen → Kept M w W → J outs W →
   Calls Tryz.prog g (#[.string names[k]] ++ caps) W fun e W' => ∃ s, e = .returned (.string s) ∧ s.size ≤ maxLen ∧ J (outs ++ [s]) W' ∧ Kept M W W') :
  Calls Tryz.prog 158 #[vs, nv, .func (.func g) #[] caps] w fun e w' => ∃ v' outs, e = .returned v' ∧ outs.length = names.length ∧ J outs w' ∧ ScIn (fun b => B b ∨ Fresh w w' b) w' (pushS names outs sc) v' ∧ Kept M w w' := by
 obtain ⟨a, cap, rfl⟩ := hn.split
 have HN := lh hn; have HS := lh hs; have HJ := lh hJ; have HC := lh hcall; have H0 := lh h0
 clear hn hs hJ hcall h0
 go_enter Tryz.func158, Tryz.ntmps158
 go_wp2
 go_loopw [0, 11] (fun u i wr => ∃ (k : Nat) (outs : List ByteArray), k ≤ names.length ∧ i = .int .i64 k ∧ outs.length = k ∧ J outs wr ∧ ScIn (fun b => B b ∨ Fresh w wr b) wr (pushS (names.take k) outs sc) u ∧ Kept M w wr) (fun _ i _ => names.length - (intOf i).toNat)
 case atStart => exact ⟨0, [], Nat.zero_le _, rfl, rfl, H0.o, ScIn.keep (fun b h => ⟨.inl h, rfl⟩) _ _ HS.o, Kept.refl _ _⟩
 case round =>
  obtain ⟨k, outs, hk, rfl, ho, hj, hsc, hK⟩ := hrel
  obtain ⟨up, rfl⟩ := hsc.ptr
  by_cases hlt : k < names.length
  ·have hnn := HN.o
   rcases hnn with ⟨h1, -⟩ | ⟨b, o, cap', h1, h2, h3, hb, hss⟩
   ·omega
   cases h1
   obtain ⟨g0, gs⟩ := StrsAt.get names b o hss k hlt
   have q0 : wr.cell? ⟨b, o + k, none⟩ = some (.string names[k]) := (World.cell?_of_block (hK.block b (hB b hb).1 (hB b hb).2)).trans g0
   have hcl := HC.o k hlt outs wr ho gs hK hj
   have HCL := lh hcl; have HSC := lh hsc; have HK := lh hK; have HGS := lh gs
   clear hcl hsc hK hss g0 gs hj
   go_wp2_with fail
   refine HCL.o.mono ?_
   rintro e w1 ⟨s, rfl, hsz, hj1, hk1⟩
   have hj2 := HJ.o _ _ (w1.alloc (.cells #[.pointer up, .string names[k], .string s] 191)) hj1 ((Below.refl _ _).alloc (Nat.le_refl _) _)
   have HJ2 := lh hj2; have HK1 := lh hk1
   clear hj1 hj2 hk1
   go_wp2
   go_roundw
   case rel =>
    have z0 := HK.o.size
    have z1 := HK1.o.size
    have hb := heap_alloc_new w1 (.cells #[.pointer up, .string names[k], .string s] 191)
    refine ⟨k + 1, outs ++ [s], by omega, by go_num, by simp [ho], HJ2.o, ?_, HK.o.trans (HK1.o.trans (.alloc _ _))⟩
    rw [List.take_succ_eq_append_getElem hlt, pushS_snoc _ _ _ _ _ (by simp; omega)]
    refine ⟨w1.heap.size, .pointer up, rfl, .inr ⟨by omega, by simp⟩, cell_box hb, cell_box hb, cell_box hb, HGS.o, hsz, ScIn.keep (fun b h => ?_) _ _ HSC.o⟩
    have hlm : b < wr.heap.size ∧ ¬ M b := by
     rcases h with h | h
     ·have := hB b h; exact ⟨by omega, this.2⟩
     ·have h1 := h.1; exact ⟨h.2, fun hm => by have := hM b hm; omega⟩
    exact ⟨h.imp id fun h => ⟨h.1, by have := h.2; simp; omega⟩, (Below.heap_alloc _ _ _ (by omega)).trans (HK1.o.block b hlm.1 hlm.2)⟩
   case measure => simp [intOf]; omega
  ·go_wp2
   go_ret
   obtain rfl : k = names.length := by omega
   rw [List.take_length] at hsc
   exact ⟨_, outs, rfl, ho, hj, hsc, hK⟩
def boundL (T : Tm) (i : Nat) : List ByteArray :=
 if T.op = 5 ∨ T.op = 27 ∨ (T.op = 7 ∧ i = 1) then [T.text]
 else if T.op = 15 ∧ 0 < i then (T.pats[i - 1]?.map namesP).getD [] else []
set_option maxHeartbeats 2000000 in
set_option maxRecDepth 100000 in
theorem boundIn_any (T : Tm) (i : Nat) (v : Value) (w : World) (hT : TmAt w.heap.size w T v) (hi : i < 1000000) (hp : T.op = 15 → 0 < i → i - 1 < T.pats.length)
  (hh : ∀ p ∈ T.pats, heightP p ≤ 1000 ∧ (partsP 1 p).length ≤ 1000000) :
  Calls Tryz.prog 159 #[v, .int .i64 i] w fun e w' => (∃ v', e = .returned v' ∧ SlIn (Fresh w w') v' (boundL T i).length fun b o => StrsAt w' (boundL T i) b o) ∧ Below w.heap.size w w' := by
 obtain ⟨a, cap, a', cap', rfl, htx, hk, hps⟩ := hT.parts
 have HTX := lh htx; have HPS := lh hps; have HH := lh hh; have HP := lh hp
 clear htx hps hk hT hh hp
 have fin1 : ∀ o, boundL T i = [T.text] → (∃ v', Ending.returned (.slice (some ⟨w.heap.size + 1, 0, none⟩) 1 1) = Ending.returned v' ∧ SlIn (Fresh w ((w.alloc o).alloc (.cells #[.string T.text] 9))) v' (boundL T i).length fun b o' => StrsAt ((w.alloc o).alloc (.cells #[.string T.text] 9)) (boundL T i) b o') ∧ Below w.heap.size w ((w.alloc o).alloc (.cells #[.string T.text] 9)) := by
  intro o hb
  rw [hb]
  have hc := heap_alloc_new (w.alloc o) (.cells #[.string T.text] 9)
  rw [World.size_alloc] at hc
  refine ⟨⟨_, rfl, .inr ⟨w.heap.size + 1, 0, 1, rfl, Nat.le_refl _, by unfold maxLen; omega, ⟨by omega, by simp⟩, ⟨⟨cell_box hc, HTX.o⟩, trivial⟩⟩⟩, ((Below.refl _ w).alloc (Nat.le_refl _) _).alloc (by simp) _⟩
 have fin0 : ∀ o, boundL T i = [] → (∃ v', Ending.returned (.slice none 0 0) = Ending.returned v' ∧ SlIn (Fresh w (w.alloc o)) v' (boundL T i).length fun b o' => StrsAt (w.alloc o) (boundL T i) b o') ∧ Below w.heap.size w (w.alloc o) := by
  intro o hb
  rw [hb]
  exact ⟨⟨_, rfl, .inl ⟨rfl, rfl⟩⟩, (Below.refl _ w).alloc (Nat.le_refl _) _⟩
 have FIN1 := lh fin1; have FIN0 := lh fin0
 clear fin1 fin0
 go_enter Tryz.func159, Tryz.ntmps159
 by_cases h5 : T.op = 5
 ·have hb : Hid (boundL T i = [T.text]) := by unfold Hid boundL; simp [h5]
  go_wp2
  go_ret
  exact FIN1.o _ hb.o
 by_cases h27 : T.op = 27
 ·have hb : Hid (boundL T i = [T.text]) := by unfold Hid boundL; simp [h27]
  go_wp2
  go_ret
  exact FIN1.o _ hb.o
 by_cases h7 : T.op = 7
 ·by_cases hi1 : i = 1
  ·have hb : Hid (boundL T i = [T.text]) := by unfold Hid boundL; simp [h7, hi1]
   subst hi1
   go_wp2
   go_ret
   exact FIN1.o _ hb.o
  ·have hb : Hid (boundL T i = []) := by unfold Hid boundL; simp [h7, hi1]
   have hi1' : ¬ ((i : Int) = 1) := by omega
   go_wp2
   go_ret
   exact FIN0.o _ hb.o
 by_cases h15 : T.op = 15
 ·by_cases hi0 : 0 < i
  ·obtain ⟨j, rfl⟩ : ∃ j, i = j + 1 := ⟨i - 1, by omega⟩
   have hj : j < T.pats.length := by simpa using HP.o h15 hi0
   have hb : Hid (boundL T (j + 1) = namesP T.pats[j]) := by unfold Hid boundL; simp [h15, hj]
   have hbox := heap_alloc_new w (.cells #[.int .i64 15, .int .i64 T.n, .string T.text, .slice a T.kids.length cap, .slice a' T.pats.length cap'] 32)
   obtain ⟨b, o, cap2, he, hc1, hc2, hbn, hss⟩ : ∃ b o cap2, (Value.slice a' T.pats.length cap') = .slice (some ⟨b, o, none⟩) T.pats.length cap2 ∧ T.pats.length ≤ cap2 ∧ cap2 ≤ maxLen ∧ b < w.heap.size ∧ PtsAt w.heap.size w T.pats b o := by
    rcases HPS.o with ⟨h, -⟩ | ⟨b, o, cap2, h1, h2, h3, h4, h5⟩
    ·omega
    ·exact ⟨b, o, cap2, h1, h2, h3, h4, h5⟩
   cases he
   obtain ⟨c0, c1, c2, c3, g0, g1, g2, g3, ht⟩ := PtsAt.get T.pats b o hss j hj
   have hBl : Below w.heap.size w (w.alloc (.cells #[.int .i64 15, .int .i64 T.n, .string T.text, .slice a T.kids.length cap, .slice (some ⟨b, o, none⟩) T.pats.length cap'] 32)) := (Below.refl _ w).alloc (Nat.le_refl _) _
   have q0 := (hBl.cell (p := ⟨b, _, none⟩) hbn).trans g0
   have q1 := (hBl.cell (p := ⟨b, _, none⟩) hbn).trans g1
   have q2 := (hBl.cell (p := ⟨b, _, none⟩) hbn).trans g2
   have q3 := (hBl.cell (p := ⟨b, _, none⟩) hbn).trans g3
   have hnm := callsIn_wide.1 (namesOf_any w.heap.size T.pats[j] (.agg #[c0, c1, c2, c3]) _ (PtAt.keep hBl (Nat.le_refl _) _ _ ht) (by simp) (HH.o _ (List.getElem_mem hj)).1 (HH.o _ (List.getElem_mem hj)).2)
   have HNM := lh hnm; have HBL := lh hBl
   clear hnm hBl hss ht g0 g1 g2 g3 hbox
   go_wp2_with fail
   refine HNM.o.mono ?_
   rintro e w1 ⟨⟨v2, rfl, hsl⟩, hb1⟩
   obtain ⟨a2, cap2, rfl⟩ := hsl.split
   have HSL := lh hsl; have HB1 := lh hb1
   clear hsl hb1
   go_wp2
   go_ret
   rw [hb.o]
   exact ⟨⟨_, rfl, HSL.o.mono (fun b h => ⟨by have := h.1; simp at this; omega, h.2⟩) fun _ _ _ h => h⟩, HBL.o.trans (HB1.o.mono (by simp))⟩
  ·have hb : Hid (boundL T i = []) := by unfold Hid boundL; simp [h15, hi0]
   have hi0' : i = 0 := by omega
   subst hi0'
   go_wp2
   go_ret
   exact FIN0.o _ hb.o
 ·have hb : Hid (boundL T i = []) := by unfold Hid boundL; simp [h5, h27, h7, h15]
  go_wp2
  go_ret
  exact FIN0.o _ hb.o
end Go.Proofs.YtjpahjfjpkbcnaaGreat
