/- Contracts of the program's functions. -/
import Derived.Test.YtjpahjfjpkbcnaaGreatB02
import Derived.Test.YtjpahjfjpkbcnaaGreatB07
import Derived.Deep.CutRange
import Derived.Test.YtjpahjfjpkbcnaaGreatB06
import Derived.Test.YtjpahjfjpkbcnaaGreatB05

namespace Go.Proofs.YtjpahjfjpkbcnaaGreat
open Go.Proofs Go.RowKit
attribute [local go_sem] Oper.semAt_some
theorem goM_len : ∀ (xs : List (Int × Tm)) (n : Nat), goM xs n = true → n ≤ 60 → n + xs.length ≤ 60
 | [], n, _, h => by simpa using h
 | x :: xs, n, h, hn => by
  unfold goM at h
  simp only [Bool.and_eq_true, decide_eq_true_eq] at h
  have := goM_len xs (n + 1) h.2 h.1.1.1
  simp; omega
set_option maxHeartbeats 2000000 in
set_option maxRecDepth 100000 in
theorem nodes_any (p : Tm) (v : Value) (w : World) (hp : TmAt w.heap.size w p v) (hh : heightM p ≤ 1000) (hlen : (partsM 1 p).length ≤ 1000) :
  CallsIn Fence.wide 0 Tryz.prog 130 #[v] w fun e w' => e = .returned (.int .i64 (partsM 1 p).length) ∧ Below w.heap.size w w' := by
 obtain ⟨a, cap, a', cap', rfl, htx, -, -⟩ := hp.parts
 refine calls_of_wpF Tryz.func130 rfl ?_
 simp only [Tryz.ntmps130, List.size_toArray, List.length_cons, List.length_nil, Nat.reduceAdd, Nat.reduceSub, Array.replicate_succ, Array.replicate_zero, List.push_toArray, List.append_toArray, List.nil_append, List.cons_append]
 refine wpF_seq ?_
 intro K hK
 refine wpF_of (n := 0) ?_
 gi_wp2
 refine wpF_seq ?_
 intro K hK
 refine wpF_of (n := 0) ?_
 gi_wp2
 have hbW : Below w.heap.size w ((w.alloc (.cells #[.int .i64 p.op, .int .i64 p.n, .string p.text, .slice a p.kids.length cap, .slice a' p.pats.length cap'] 158)).alloc (.cells #[.int .i64 0] 3)) := ((Below.refl _ w).alloc (Nat.le_refl _) _).alloc (by simp) _
 have hsW : ((w.alloc (.cells #[.int .i64 p.op, .int .i64 p.n, .string p.text, .slice a p.kids.length cap, .slice a' p.pats.length cap'] 158)).alloc (.cells #[.int .i64 0] 3)).heap.size = w.heap.size + 2 := by simp
 have hnW : ((w.alloc (.cells #[.int .i64 p.op, .int .i64 p.n, .string p.text, .slice a p.kids.length cap, .slice a' p.pats.length cap'] 158)).alloc (.cells #[.int .i64 0] 3)).heap[w.heap.size + 1]? = some (.cells #[.int .i64 0] 3 (0, 0)) := by
  have := heap_alloc_new (w.alloc (.cells #[.int .i64 p.op, .int .i64 p.n, .string p.text, .slice a p.kids.length cap, .slice a' p.pats.length cap'] 158)) (.cells #[.int .i64 0] 3); simpa using this
 have hBW : ((w.alloc (.cells #[.int .i64 p.op, .int .i64 p.n, .string p.text, .slice a p.kids.length cap, .slice a' p.pats.length cap'] 158)).alloc (.cells #[.int .i64 0] 3)).heap[w.heap.size]? = some (.cells #[.int .i64 p.op, .int .i64 p.n, .string p.text, .slice a p.kids.length cap, .slice a' p.pats.length cap'] 158 (0, 0)) := by
  rw [Below.heap_alloc _ _ _ (by simp)]; exact heap_alloc_new _ _
 generalize ((w.alloc (.cells #[.int .i64 p.op, .int .i64 p.n, .string p.text, .slice a p.kids.length cap, .slice a' p.pats.length cap'] 158)).alloc (.cells #[.int .i64 0] 3)) = W at *
 obtain ⟨c0, c1, c2, c3, c4⟩ := cells5 hBW
 have HSW := lh hsW; have HNW := lh hnW
 clear hsW hnW hBW
 refine wpF_seq ?_
 intro K0 hK0
 refine wpF_seq ?_
 intro K hK
 refine wpF_of (n := 0) ?_
 gi_wp2_with fail
 refine ⟨trivial, rfl, (callsIn_wide.2 (partsM_any W p.op p.n p.text (.slice a p.kids.length cap) (.slice a' p.pats.length cap'))).mono ?_⟩
 rintro e W2 ⟨rfl, hW2⟩
 have hs2 : W2.heap.size = w.heap.size + 4 := by rw [hW2]; simp [HSW.o]
 have hbWW : Below W.heap.size W W2 := by rw [hW2]; exact ((Below.refl _ W).alloc (Nat.le_refl _) _).alloc (by simp) _
 have hb2 : Below w.heap.size w W2 := hbW.trans (hbWW.mono hbW.size)
 have hT2 : W2.heap[W.heap.size]? = some (.cells #[.int .i64 p.op, .int .i64 p.n, .string p.text, .slice a p.kids.length cap, .slice a' p.pats.length cap'] 32 (0, 0)) := by
  rw [hW2, Below.heap_alloc _ _ _ (by simp)]; exact heap_alloc_new _ _
 have hK2 : W2.heap[W.heap.size + 1]? = some (.cells #[.func (.func 78) #[] #[]] 98 (0, 0)) := by
  rw [hW2]; have := heap_alloc_new (W.alloc (.cells #[.int .i64 p.op, .int .i64 p.n, .string p.text, .slice a p.kids.length cap, .slice a' p.pats.length cap'] 32)) (.cells #[.func (.func 78) #[] #[]] 98); simpa using this
 have hp2 : TmAt w.heap.size W2 p (.agg #[.int .i64 p.op, .int .i64 p.n, .string p.text, .slice a p.kids.length cap, .slice a' p.pats.length cap']) := TmAt.keep hb2 (Nat.le_refl _) _ _ hp
 clear hW2
 have hlx : (segM W2 1 p (.agg #[.int .i64 p.op, .int .i64 p.n, .string p.text, .slice a p.kids.length cap, .slice a' p.pats.length cap'])).length = (partsM 1 p).length := by
  rw [← segM_map W2 p 1 (.agg #[.int .i64 p.op, .int .i64 p.n, .string p.text, .slice a p.kids.length cap, .slice a' p.pats.length cap'])]; simp
 have HLX := lh hlx; clear hlx
 gi_wp2
 refine wpF_block ?_
 refine wpF_range (fn := Tryz.f130) rfl (gf := 118) rfl (enters_of Tryz.func118 (by kernel_rfl) rfl) (w0 := W2) (iterM hp2 (by omega) hT2 hK2 hh) (Below.refl _ _) (fun _ => rfl)
  (fun k => k = w.heap.size + 1) ?hS ?hD
  (fun pre V => V.heap[w.heap.size + 1]? = some (.cells #[.int .i64 pre.length] 3 (0, 0)) ∧ Below w.heap.size w V ∧ w.heap.size + 4 ≤ V.heap.size)
  (fun _ _ => False) (fun _ _ => False) ?hI ?hIx ?h0 ?hround ?hdone ?hstop ?hpanic
 case hS => have := HSW.out; rintro k rfl; omega
 case hD => have := HSW.out; rintro k (h | rfl | rfl) <;> omega
 case hI =>
  rintro pre V1 V2 ⟨h4, h8, h9⟩ hV
  exact ⟨bget hV h4 (by omega), h8.trans (hV.mono (by omega)), Nat.le_trans h9 hV.size⟩
 case hIx => intro _ _ _ h; exact h.elim
 case h0 => exact ⟨bget hbWW HNW.o (by have := HSW.out; omega), hb2, by omega⟩
 case hstop => intro _ _ _ _ h; exact h.elim
 case hpanic => intro _ _ _ _ h; exact h.elim
 case hround =>
  rintro l pre x post V hl hlV hx ⟨h4, h8, h9⟩
  have hpl : pre.length ≤ 1000 := by have := congrArg List.length hx; rw [HLX.o] at this; simp at this; omega
  have H4 := lh h4
  clear hx h4
  dsimp only [encM]
  simp only [List.zip_toArray, List.zip_cons_cons, List.zip_nil_right, List.foldl_toArray', List.foldl_cons, List.foldl_nil, List.setIfInBounds_toArray, List.set_cons_succ, List.set_cons_zero]
  gi_wp2
  refine ⟨Below.refl _ _, fun V2 hk2 => ?_⟩
  have hN2 := hk2.get H4.o (by omega)
  have n0 := cell_of_one hN2
  have n1 := free_of_one hN2
  have hB2 : Below w.heap.size V V2 := hk2.below (by omega) (by rintro k rfl; omega)
  have ek : Kept (fun k => k = w.heap.size + 1) V2 (V2.setCell ⟨w.heap.size + 1, 0, none⟩ (.int .i64 (pre.length + 1))) := .setCell (S := fun k => k = w.heap.size + 1) _ rfl _
  have hone := one_setCell (u := .int .i64 (pre.length + 1)) hN2
  have hsz := hB2.size
  have hsz2 := ek.size
  have EK := lh ek; have HO := lh hone; have HB2 := lh hB2
  clear hN2 ek hone hB2
  gi_wp2
  exact ⟨EK.o, by rw [HO.o]; simp, (h8.trans HB2.o).trans (EK.o.below (by omega) (by rintro k rfl; omega)), by omega⟩
 case hdone =>
  rintro E V hE ⟨h4, h8, h9⟩ hV
  refine hK0 _ _ (wpF_of (n := 0) ?_)
  have n0 := cell_of_one h4
  rw [HLX.o] at n0
  have HV := lh hV; have H8 := lh h8
  clear hV h8 h4
  gi_wp2
  refine leavesM_mark (by simp) HV.o ?_
  exact ⟨_, results_tmp rfl _ _ _, rfl, H8.o.trans (below_putObj _ (by omega) _)⟩
def deepest (xs : List (Int × Tm)) : Int := xs.foldl (fun m x => max m x.1) 0
theorem deepest_le (xs : List (Int × Tm)) (h : ∀ x ∈ xs, 0 ≤ x.1 ∧ x.1 ≤ 1000000) : 0 ≤ deepest xs ∧ deepest xs ≤ 1000000 := by
 unfold deepest
 have key : ∀ (xs : List (Int × Tm)) (m : Int), 0 ≤ m → m ≤ 1000000 → (∀ x ∈ xs, 0 ≤ x.1 ∧ x.1 ≤ 1000000) → 0 ≤ xs.foldl (fun m x => max m x.1) m ∧ xs.foldl (fun m x => max m x.1) m ≤ 1000000 := by
  intro xs
  induction xs with
  | nil => intro m h1 h2 _; exact ⟨h1, h2⟩
  | cons x xs ih =>
   intro m h1 h2 h3
   have := h3 x (by simp)
   exact ih (max m x.1) (by omega) (by omega) fun y hy => h3 y (by simp [hy])
 exact key xs 0 (by omega) (by omega) h
set_option maxHeartbeats 2000000 in
set_option maxRecDepth 100000 in
theorem depth_any (p : Tm) (v : Value) (w : World) (hp : TmAt w.heap.size w p v) (hh : heightM p ≤ 1000) (hlen : ∀ x ∈ partsM 1 p, 0 ≤ x.1 ∧ x.1 ≤ 1000000) :
  CallsIn Fence.wide 0 Tryz.prog 131 #[v] w fun e w' => e = .returned (.int .i64 (deepest (partsM 1 p))) ∧ Below w.heap.size w w' := by
 obtain ⟨a, cap, a', cap', rfl, htx, -, -⟩ := hp.parts
 refine calls_of_wpF Tryz.func131 rfl ?_
 simp only [Tryz.ntmps131, List.size_toArray, List.length_cons, List.length_nil, Nat.reduceAdd, Nat.reduceSub, Array.replicate_succ, Array.replicate_zero, List.push_toArray, List.append_toArray, List.nil_append, List.cons_append]
 refine wpF_seq ?_
 intro K hK
 refine wpF_of (n := 0) ?_
 gi_wp2
 refine wpF_seq ?_
 intro K hK
 refine wpF_of (n := 0) ?_
 gi_wp2
 have hbW : Below w.heap.size w ((w.alloc (.cells #[.int .i64 p.op, .int .i64 p.n, .string p.text, .slice a p.kids.length cap, .slice a' p.pats.length cap'] 158)).alloc (.cells #[.int .i64 0] 3)) := ((Below.refl _ w).alloc (Nat.le_refl _) _).alloc (by simp) _
 have hsW : ((w.alloc (.cells #[.int .i64 p.op, .int .i64 p.n, .string p.text, .slice a p.kids.length cap, .slice a' p.pats.length cap'] 158)).alloc (.cells #[.int .i64 0] 3)).heap.size = w.heap.size + 2 := by simp
 have hnW : ((w.alloc (.cells #[.int .i64 p.op, .int .i64 p.n, .string p.text, .slice a p.kids.length cap, .slice a' p.pats.length cap'] 158)).alloc (.cells #[.int .i64 0] 3)).heap[w.heap.size + 1]? = some (.cells #[.int .i64 0] 3 (0, 0)) := by
  have := heap_alloc_new (w.alloc (.cells #[.int .i64 p.op, .int .i64 p.n, .string p.text, .slice a p.kids.length cap, .slice a' p.pats.length cap'] 158)) (.cells #[.int .i64 0] 3); simpa using this
 have hBW : ((w.alloc (.cells #[.int .i64 p.op, .int .i64 p.n, .string p.text, .slice a p.kids.length cap, .slice a' p.pats.length cap'] 158)).alloc (.cells #[.int .i64 0] 3)).heap[w.heap.size]? = some (.cells #[.int .i64 p.op, .int .i64 p.n, .string p.text, .slice a p.kids.length cap, .slice a' p.pats.length cap'] 158 (0, 0)) := by
  rw [Below.heap_alloc _ _ _ (by simp)]; exact heap_alloc_new _ _
 generalize ((w.alloc (.cells #[.int .i64 p.op, .int .i64 p.n, .string p.text, .slice a p.kids.length cap, .slice a' p.pats.length cap'] 158)).alloc (.cells #[.int .i64 0] 3)) = W at *
 obtain ⟨c0, c1, c2, c3, c4⟩ := cells5 hBW
 have HSW := lh hsW; have HNW := lh hnW
 clear hsW hnW hBW
 refine wpF_seq ?_
 intro K0 hK0
 refine wpF_seq ?_
 intro K hK
 refine wpF_of (n := 0) ?_
 gi_wp2_with fail
 refine ⟨trivial, rfl, (callsIn_wide.2 (partsM_any W p.op p.n p.text (.slice a p.kids.length cap) (.slice a' p.pats.length cap'))).mono ?_⟩
 rintro e W2 ⟨rfl, hW2⟩
 have hs2 : W2.heap.size = w.heap.size + 4 := by rw [hW2]; simp [HSW.o]
 have hbWW : Below W.heap.size W W2 := by rw [hW2]; exact ((Below.refl _ W).alloc (Nat.le_refl _) _).alloc (by simp) _
 have hb2 : Below w.heap.size w W2 := hbW.trans (hbWW.mono hbW.size)
 have hT2 : W2.heap[W.heap.size]? = some (.cells #[.int .i64 p.op, .int .i64 p.n, .string p.text, .slice a p.kids.length cap, .slice a' p.pats.length cap'] 32 (0, 0)) := by
  rw [hW2, Below.heap_alloc _ _ _ (by simp)]; exact heap_alloc_new _ _
 have hK2 : W2.heap[W.heap.size + 1]? = some (.cells #[.func (.func 78) #[] #[]] 98 (0, 0)) := by
  rw [hW2]; have := heap_alloc_new (W.alloc (.cells #[.int .i64 p.op, .int .i64 p.n, .string p.text, .slice a p.kids.length cap, .slice a' p.pats.length cap'] 32)) (.cells #[.func (.func 78) #[] #[]] 98); simpa using this
 have hp2 : TmAt w.heap.size W2 p (.agg #[.int .i64 p.op, .int .i64 p.n, .string p.text, .slice a p.kids.length cap, .slice a' p.pats.length cap']) := TmAt.keep hb2 (Nat.le_refl _) _ _ hp
 clear hW2
 have hdx : ∀ x ∈ segM W2 1 p (.agg #[.int .i64 p.op, .int .i64 p.n, .string p.text, .slice a p.kids.length cap, .slice a' p.pats.length cap']), 0 ≤ x.d ∧ x.d ≤ 1000000 := by
  intro x hx
  have := hlen (x.d, x.T) (by rw [← segM_map W2 p 1 (.agg #[.int .i64 p.op, .int .i64 p.n, .string p.text, .slice a p.kids.length cap, .slice a' p.pats.length cap'])]; exact List.mem_map.2 ⟨x, hx, rfl⟩)
  exact this
 have hlx : ((segM W2 1 p (.agg #[.int .i64 p.op, .int .i64 p.n, .string p.text, .slice a p.kids.length cap, .slice a' p.pats.length cap'])).map fun x => (x.d, x.T)) = partsM 1 p := segM_map W2 p 1 _
 have HLX := lh hlx; clear hlx
 gi_wp2
 refine wpF_block ?_
 refine wpF_range (fn := Tryz.f131) rfl (gf := 118) rfl (enters_of Tryz.func118 (by kernel_rfl) rfl) (w0 := W2) (iterM hp2 (by omega) hT2 hK2 hh) (Below.refl _ _) (fun _ => rfl)
  (fun k => k = w.heap.size + 1) ?hS ?hD
  (fun pre V => V.heap[w.heap.size + 1]? = some (.cells #[.int .i64 (deepest (pre.map fun x => (x.d, x.T)))] 3 (0, 0)) ∧ Below w.heap.size w V ∧ w.heap.size + 4 ≤ V.heap.size)
  (fun _ _ => False) (fun _ _ => False) ?hI ?hIx ?h0 ?hround ?hdone ?hstop ?hpanic
 case hS => have := HSW.out; rintro k rfl; omega
 case hD => have := HSW.out; rintro k (h | rfl | rfl) <;> omega
 case hI =>
  rintro pre V1 V2 ⟨h4, h8, h9⟩ hV
  exact ⟨bget hV h4 (by omega), h8.trans (hV.mono (by omega)), Nat.le_trans h9 hV.size⟩
 case hIx => intro _ _ _ h; exact h.elim
 case h0 => exact ⟨bget hbWW HNW.o (by have := HSW.out; omega), hb2, by omega⟩
 case hstop => intro _ _ _ _ h; exact h.elim
 case hpanic => intro _ _ _ _ h; exact h.elim
 case hround =>
  rintro l pre x post V hl hlV hx ⟨h4, h8, h9⟩
  have hxd := hdx x (by rw [hx]; simp)
  have hpd := deepest_le (pre.map fun x => (x.d, x.T)) (by
   intro y hy
   obtain ⟨z, hz, rfl⟩ := List.mem_map.1 hy
   exact hdx z (by rw [hx]; simp [hz]))
  have hsn : deepest ((pre ++ [x]).map fun x => (x.d, x.T)) = max (deepest (pre.map fun x => (x.d, x.T))) x.d := by simp [deepest]
  have HSN := lh hsn; clear hsn
  obtain ⟨xd, xT, xv⟩ := x
  simp only at hxd HSN
  generalize deepest (pre.map fun x => (x.d, x.T)) = m at *
  have H4 := lh h4
  clear hx h4
  dsimp only [encM]
  simp only [List.zip_toArray, List.zip_cons_cons, List.zip_nil_right, List.foldl_toArray', List.foldl_cons, List.foldl_nil, List.setIfInBounds_toArray, List.set_cons_succ, List.set_cons_zero]
  gi_wp2
  refine ⟨Below.refl _ _, fun V2 hk2 => ?_⟩
  have hN2 := hk2.get H4.o (by omega)
  have n0 := cell_of_one hN2
  have n1 := free_of_one hN2
  have hB2 : Below w.heap.size V V2 := hk2.below (by omega) (by rintro k rfl; omega)
  have fin : ∀ (u : Int) (A : Act), max m xd = u → bodyQ (α := PartM) (fun k => k = w.heap.size + 1) (fun pre V => V.heap[w.heap.size + 1]? = some (.cells #[.int .i64 (deepest (pre.map fun x => (x.d, x.T)))] 3 (0, 0)) ∧ Below w.heap.size w V ∧ w.heap.size + 4 ≤ V.heap.size) (fun _ _ => False) (fun _ _ => False) (pre ++ [⟨xd, xT, xv⟩]) V2 .normal A (V2.setCell ⟨w.heap.size + 1, 0, none⟩ (.int .i64 u)) := by
   intro u A hu
   have ek : Kept (fun k => k = w.heap.size + 1) V2 (V2.setCell ⟨w.heap.size + 1, 0, none⟩ (.int .i64 u)) := .setCell (S := fun k => k = w.heap.size + 1) _ rfl _
   have hsz := hB2.size
   have hsz2 := ek.size
   exact ⟨ek, by rw [one_setCell (u := .int .i64 u) hN2, HSN.o, hu], (h8.trans hB2).trans (ek.below (by omega) (by rintro k rfl; omega)), by omega⟩
  have FIN := lh fin
  have HB2 := lh hB2
  clear hN2 fin hB2
  rcases Int.lt_or_le m xd with hlt | hge
  ·gi_wp2
   first | exact FIN.o xd _ (by omega) | exact FIN.o (max m xd) _ rfl
  ·gi_wp2
   first | exact FIN.o m _ (by omega) | exact FIN.o (max m xd) _ rfl
 case hdone =>
  rintro E V hE ⟨h4, h8, h9⟩ hV
  refine hK0 _ _ (wpF_of (n := 0) ?_)
  have n0 := cell_of_one h4
  rw [HLX.o] at n0
  have HV := lh hV; have H8 := lh h8
  clear hV h8 h4
  gi_wp2
  refine leavesM_mark (by simp) HV.o ?_
  exact ⟨_, results_tmp rfl _ _ _, rfl, H8.o.trans (below_putObj _ (by omega) _)⟩
theorem partsM_dep : ∀ (xs : List (Int × Tm)) (n : Nat), goM xs n = true → ∀ x ∈ xs, x.1 ≤ 14
 | [], _, _, x, hx => by simp at hx
 | y :: xs, n, h, x, hx => by
  unfold goM at h
  simp only [Bool.and_eq_true, decide_eq_true_eq] at h
  rcases List.mem_cons.1 hx with rfl | hx
  ·exact h.1.1.2
  ·exact partsM_dep xs (n + 1) h.2 x hx
mutual
theorem partsM_pos : ∀ (T : Tm) (d : Int), 0 ≤ d → ∀ x ∈ partsM d T, 0 ≤ x.1
 | .mk op n text kids pats, d, hd, x, hx => by
  unfold partsM at hx
  rcases List.mem_cons.1 hx with rfl | hx
  ·exact hd
  ·exact partssM_pos kids (d + 1) (by omega) x hx
theorem partssM_pos : ∀ (ts : List Tm) (d : Int), 0 ≤ d → ∀ x ∈ partssM d ts, 0 ≤ x.1
 | [], d, hd, x, hx => by simp [partssM] at hx
 | t :: ts, d, hd, x, hx => by
  unfold partssM at hx
  rcases List.mem_append.1 hx with hx | hx
  ·exact partsM_pos t d hd x hx
  ·exact partssM_pos ts d hd x hx
end
set_option maxHeartbeats 2000000 in
theorem count_no (p : Tm) (v : Value) (way : Int) (w : World) (hp : TmAt w.heap.size w p v) (hh : heightM p ≤ 1000) (hok : okM p) (hb : termB p = false) :
  Calls Tryz.prog 100 #[v, .int .i64 way] w fun e w' => e = .returned (.tuple #[.int .i64 0, .int .i64 2]) ∧ Below w.heap.size w w' := by
 obtain ⟨a, cap, a', cap', rfl, htx, -, -⟩ := hp.parts
 have hb1 := (Below.refl w.heap.size w).alloc (Nat.le_refl _) (.cells #[.int .i64 p.op, .int .i64 p.n, .string p.text, .slice a p.kids.length cap, .slice a' p.pats.length cap'] 32)
 have hc := Check_any p _ _ (TmAt.keep hb1 (by simp) _ _ hp) hh hok
 rw [hb] at hc
 have HC := lh hc; clear hc hb
 go_enter Tryz.func100, Tryz.ntmps100
 go_wp2_with fail
 refine HC.o.mono ?_
 rintro e w1 ⟨rfl, hbb⟩
 have h2 : errOf false = 2 := rfl
 rw [h2]
 go_wp2
 go_ret2
 exact ⟨rfl, hb1.trans (hbb.mono (by simp))⟩
set_option maxHeartbeats 2000000 in
set_option maxRecDepth 100000 in
theorem count_yes (p : Tm) (v : Value) (way : Int) (hway : way = 0 ∨ way = 1) (w : World) (hp : TmAt w.heap.size w p v) (hh : heightM p ≤ 1000) (hok : okM p) (hb : termB p = true) :
  Calls Tryz.prog 100 #[v, .int .i64 way] w fun e w' => e = .returned (.tuple #[.int .i64 (if way = 0 then ((partsM 1 p).length : Int) else deepest (partsM 1 p)), .int .i64 0]) ∧ Below w.heap.size w w' := by
 obtain ⟨a, cap, a', cap', rfl, htx, -, -⟩ := hp.parts
 have hb1 := (Below.refl w.heap.size w).alloc (Nat.le_refl _) (.cells #[.int .i64 p.op, .int .i64 p.n, .string p.text, .slice a p.kids.length cap, .slice a' p.pats.length cap'] 32)
 have hp1 := TmAt.keep hb1 (n₁ := w.heap.size + 1) (by simp) _ _ hp
 have hc := Check_any p _ _ (TmAt.keep hb1 (by simp) _ _ hp) hh hok
 have hlen := goM_len _ 0 hb (by omega)
 have hdep := partsM_dep _ 0 hb
 have hpos := partsM_pos p 1 (by omega)
 rw [hb] at hc
 have HC := lh hc; clear hc hb
 have HD := lh hdep; have HP := lh hpos; have HLN := lh hlen; clear hdep hpos hlen
 have hfa := enters_of Tryz.func130 (by kernel_rfl) rfl
 have hfb := enters_of Tryz.func131 (by kernel_rfl) rfl
 go_enter Tryz.func100, Tryz.ntmps100
 go_wp2_with fail
 refine HC.o.mono ?_
 rintro e w1 ⟨rfl, hbb⟩
 have h2 : errOf true = 0 := rfl
 rw [h2]
 have hbx := bget' hbb (heap_alloc_new w (.cells #[.int .i64 p.op, .int .i64 p.n, .string p.text, .slice a p.kids.length cap, .slice a' p.pats.length cap'] 32))
 obtain ⟨y0, y1, y2, y3, y4⟩ := cells5 hbx
 have HBX := lh hbx; have HBB := lh hbb; clear hbx hbb h2
 have hkeep : ∀ W, Below w1.heap.size w1 W → Below w.heap.size w W := fun W h => (hb1.trans (HBB.o.mono (by simp))).trans (h.mono (by have := HBB.o.size; simp at this; omega))
 have HKP := lh hkeep; clear hkeep
 rcases hway with rfl | rfl
 ·go_wp2_with fail
  refine (callsIn_wide.1 (nodes_any p _ _ (TmAt.keep (HKP.o _ (((Below.refl _ w1).alloc (Nat.le_refl _) _).alloc (by simp) _)) (by have := HBB.o.size; simp at this ⊢; omega) _ _ hp) hh (by have := HLN.out; unfold termB at *; omega))).mono ?_
  rintro e w3 ⟨rfl, hb3⟩
  have HB3 := lh hb3; clear hb3
  go_wp2
  go_ret2
  exact ⟨rfl, (HKP.o _ (((Below.refl _ w1).alloc (Nat.le_refl _) _).alloc (by simp) _)).trans (HB3.o.mono (by have := HBB.o.size; simp at this ⊢; omega))⟩
 ·go_wp2_with fail
  refine (callsIn_wide.1 (depth_any p _ _ (TmAt.keep (HKP.o _ (((Below.refl _ w1).alloc (Nat.le_refl _) _).alloc (by simp) _)) (by have := HBB.o.size; simp at this ⊢; omega) _ _ hp) hh (fun x hx => ⟨HP.o x hx, by have := HD.o x hx; omega⟩))).mono ?_
  rintro e w3 ⟨rfl, hb3⟩
  have HB3 := lh hb3; clear hb3
  go_wp2
  go_ret2
  exact ⟨rfl, (HKP.o _ (((Below.refl _ w1).alloc (Nat.le_refl _) _).alloc (by simp) _)).trans (HB3.o.mono (by have := HBB.o.size; simp at this ⊢; omega))⟩
def nodesM (p : Tm) : Int := (partsM 1 p).length
def depthM (p : Tm) : Int := deepest (partsM 1 p)
set_option maxHeartbeats 2000000 in
theorem Nodes_any (p : Tm) (v : Value) (w : World) (hp : TmAt w.heap.size w p v) (hh : heightM p ≤ 1000) (hok : okM p) :
  Calls Tryz.prog 37 #[v] w fun e w' => e = .returned (if termB p then .tuple #[.int .i64 (nodesM p), .int .i64 0] else .tuple #[.int .i64 0, .int .i64 2]) ∧ Below w.heap.size w w' := by
 obtain ⟨a, cap, a', cap', rfl, htx, -, -⟩ := hp.parts
 have hb1 := (Below.refl w.heap.size w).alloc (Nat.le_refl _) (.cells #[.int .i64 p.op, .int .i64 p.n, .string p.text, .slice a p.kids.length cap, .slice a' p.pats.length cap'] 32)
 have hp1 := TmAt.keep hb1 (n₁ := (w.alloc (.cells #[.int .i64 p.op, .int .i64 p.n, .string p.text, .slice a p.kids.length cap, .slice a' p.pats.length cap'] 32)).heap.size) (by simp) _ _ hp
 cases hb : termB p
 ·have hc := count_no p _ 0 _ hp1 hh hok hb
  have HC := lh hc; clear hc hb
  go_enter Tryz.func37, Tryz.ntmps37
  go_wp2_with fail
  refine HC.o.mono ?_
  rintro e w1 ⟨rfl, hbb⟩
  go_wp2
  go_ret2
  exact ⟨rfl, hb1.trans (hbb.mono (by simp))⟩
 ·have hc := count_yes p _ 0 (.inl rfl) _ hp1 hh hok hb
  rw [if_pos rfl] at hc
  have HC := lh hc; clear hc hb
  go_enter Tryz.func37, Tryz.ntmps37
  go_wp2_with fail
  refine HC.o.mono ?_
  rintro e w1 ⟨rfl, hbb⟩
  go_wp2
  go_ret2
  exact ⟨rfl, hb1.trans (hbb.mono (by simp))⟩
set_option maxHeartbeats 2000000 in
theorem Depth_any (p : Tm) (v : Value) (w : World) (hp : TmAt w.heap.size w p v) (hh : heightM p ≤ 1000) (hok : okM p) :
  Calls Tryz.prog 38 #[v] w fun e w' => e = .returned (if termB p then .tuple #[.int .i64 (depthM p), .int .i64 0] else .tuple #[.int .i64 0, .int .i64 2]) ∧ Below w.heap.size w w' := by
 obtain ⟨a, cap, a', cap', rfl, htx, -, -⟩ := hp.parts
 have hb1 := (Below.refl w.heap.size w).alloc (Nat.le_refl _) (.cells #[.int .i64 p.op, .int .i64 p.n, .string p.text, .slice a p.kids.length cap, .slice a' p.pats.length cap'] 32)
 have hp1 := TmAt.keep hb1 (n₁ := (w.alloc (.cells #[.int .i64 p.op, .int .i64 p.n, .string p.text, .slice a p.kids.length cap, .slice a' p.pats.length cap'] 32)).heap.size) (by simp) _ _ hp
 cases hb : termB p
 ·have hc := count_no p _ 1 _ hp1 hh hok hb
  have HC := lh hc; clear hc hb
  go_enter Tryz.func38, Tryz.ntmps38
  go_wp2_with fail
  refine HC.o.mono ?_
  rintro e w1 ⟨rfl, hbb⟩
  go_wp2
  go_ret2
  exact ⟨rfl, hb1.trans (hbb.mono (by simp))⟩
 ·have hc := count_yes p _ 1 (.inr rfl) _ hp1 hh hok hb
  rw [if_neg (by omega)] at hc
  have HC := lh hc; clear hc hb
  go_enter Tryz.func38, Tryz.ntmps38
  go_wp2_with fail
  refine HC.o.mono ?_
  rintro e w1 ⟨rfl, hbb⟩
  go_wp2
  go_ret2
  exact ⟨rfl, hb1.trans (hbb.mono (by simp))⟩
end Go.Proofs.YtjpahjfjpkbcnaaGreat
namespace Go.Proofs.YtjpahjfjpkbcnaaGreat
open Go.Proofs Go.RowKit
theorem goM_all : ∀ (xs : List (Int × Tm)) (n : Nat), goM xs n = true → ∀ x ∈ xs, x.2.fits = true
 | [], _, _, x, hx => by cases hx
 | y :: xs, n, h, x, hx => by
  unfold goM at h
  simp only [Bool.and_eq_true] at h
  rcases List.mem_cons.1 hx with rfl | hx
  ·exact h.1.2
  ·exact goM_all xs _ h.2 x hx
theorem goP_len : ∀ (xs : List Pt) (n : Nat) (met : List UInt8 → Bool), goP xs n met = true → n ≤ 12 → n + xs.length ≤ 12
 | [], n, _, _, h => by simpa using h
 | p :: ps, n, met, h, hn => by
  unfold goP at h
  simp only [Bool.and_eq_true, decide_eq_true_eq] at h
  have h2 : ∃ met', goP ps (n + 1) met' = true := by
   have := h.2
   split at this
   ·simp only [Bool.and_eq_true] at this; exact ⟨_, this.2⟩
   ·exact ⟨_, this⟩
  obtain ⟨met', h2⟩ := h2
  have := goP_len ps (n + 1) met' h2 h.1.1
  simp; omega
theorem patB_len {p : Pt} (h : patB p = true) : (partsP 1 p).length ≤ 12 := by
 have := goP_len _ 0 _ h (by omega)
 simpa using this
theorem allP_get {ps : List Pt} (h : allP ps = true) : ∀ p ∈ ps, patB p = true := List.all_eq_true.1 h
theorem heightsP_mem : ∀ (ps : List Pt) (p : Pt), p ∈ ps → heightP p ≤ heightsP ps
 | q :: ps, p, h => by
  unfold heightsP
  rcases List.mem_cons.1 h with rfl | h
  ·exact Nat.le_max_left _ _
  ·exact Nat.le_trans (heightsP_mem ps p h) (Nat.le_max_right _ _)
theorem fits_okN {op n : Int} {text : ByteArray} {kids : List Tm} {pats : List Pt} (h : (Tm.mk op n text kids pats).fits = true) :
  (op = 15 → kids.length ≤ pats.length + 1) ∧ (op = 4 → kids = []) ∧ kids.length ≤ 900000 ∧ pats.length ≤ 5 ∧ ∀ p ∈ pats, patB p = true := by
 unfold Tm.fits at h
 simp only [Bool.and_eq_true] at h
 obtain ⟨⟨⟨h1, -⟩, -⟩, h4⟩ := h
 change kidsFitB op kids.length pats.length = true at h1
 change patsFitB op pats = true at h4
 have hp : pats.length ≤ 5 ∧ ∀ p ∈ pats, patB p = true := by
  unfold patsFitB at h4
  split at h4
  ·simp only [Bool.and_eq_true, decide_eq_true_eq] at h4
   exact ⟨h4.1.2, allP_get h4.2⟩
  ·have : pats = [] := by simpa using h4
   subst this
   exact ⟨by simp, fun p hp => by cases hp⟩
 have hk : kids.length ≤ 6 ∧ (op = 15 → kids.length = pats.length + 1) ∧ (op = 4 → kids.length = 0) := by
  unfold kidsFitB at h1
  repeat' split at h1
  all_goals simp only [decide_eq_true_eq, Bool.false_eq_true] at h1
  all_goals (refine ⟨by omega, fun h => by omega, fun h => by omega⟩)
 exact ⟨fun h => Nat.le_of_eq (hk.2.1 h), fun h => List.eq_nil_of_length_eq_zero (hk.2.2 h), by omega, hp⟩
mutual
theorem okN_of : ∀ (T : Tm) (d : Int), okM T → (∀ x ∈ partsM d T, x.2.fits = true) → okN T
 | .mk op n text kids pats, d, hm, hf => by
  unfold okM at hm
  have h0 := fits_okN (hf (d, .mk op n text kids pats) (by unfold partsM; exact List.mem_cons_self))
  unfold okN
  exact ⟨h0.1, h0.2.1, h0.2.2.1, by have := h0.2.2.2.1; omega, fun p hp => ⟨Nat.le_trans (heightsP_mem pats p hp) hm.2.1, by have := patB_len (h0.2.2.2.2 p hp); omega⟩,
   okNs_of kids (d + 1) hm.2.2 fun x hx => hf x (by unfold partsM; exact List.mem_cons_of_mem _ hx)⟩
theorem okNs_of : ∀ (ts : List Tm) (d : Int), oksM ts → (∀ x ∈ partssM d ts, x.2.fits = true) → okNs ts
 | [], _, _, _ => trivial
 | t :: ts, d, hm, hf => by
  unfold oksM at hm
  exact ⟨okN_of t d hm.1 fun x hx => hf x (by unfold partssM; exact List.mem_append_left _ hx), okNs_of ts d hm.2 fun x hx => hf x (by unfold partssM; exact List.mem_append_right _ hx)⟩
end
mutual
theorem frees_len : ∀ (T : Tm) (bd : List UInt8 → Bool) (d : Int), (frees bd T).length ≤ (partsM d T).length
 | .mk op n text kids pats, bd, d => by
  unfold frees partsM
  have := freesK_len kids bd (boundL (.mk op n text kids pats)) 0 (d + 1)
  rw [List.length_append, List.length_cons]
  split <;> simp <;> omega
theorem freesK_len : ∀ (ts : List Tm) (bd : List UInt8 → Bool) (bnd : Nat → List ByteArray) (i : Nat) (d : Int), (freesK bd bnd ts i).length ≤ (partssM d ts).length
 | [], _, _, _, _ => by unfold freesK partssM; simp
 | t :: ts, bd, bnd, i, d => by
  unfold freesK partssM
  rw [List.length_append, List.length_append]
  have h1 := frees_len t (fun x => bd x || (bnd i).any fun s => s.toList == x) d
  have h2 := freesK_len ts bd bnd (i + 1) d
  omega
end
theorem termB_okN {T : Tm} (h : termB T = true) (hm : okM T) : okN T := okN_of T 1 hm (goM_all _ 0 h)
theorem termB_frees {T : Tm} (h : termB T = true) (bd : List UInt8 → Bool) : (frees bd T).length ≤ 60 := by
 have h1 := goM_len _ 0 h (by omega)
 have h2 := frees_len T bd 1
 omega
def FreeEnd (T : Tm) (w : World) (e : Ending) (w' : World) : Prop :=
 if termB T then ∃ v', e = .returned (.tuple #[v', .int .i64 0]) ∧ SlIn (Fresh w w') v' (freeL T).length fun b o => StrsAt w' (freeL T) b o else e = .returned (.tuple #[.slice none 0 0, .int .i64 2])
set_option maxHeartbeats 2000000 in
theorem Free_any (T : Tm) (v : Value) (w : World) (hT : TmAt w.heap.size w T v) (hh : heightM T ≤ 1000) (hm : okM T) :
  Calls Tryz.prog 47 #[v] w fun e w' => FreeEnd T w e w' ∧ Below w.heap.size w w' := by
 obtain ⟨a, cap, a', cap', rfl, -, -, -⟩ := hT.parts
 have hb0 : Below w.heap.size w (w.alloc (.cells #[.int .i64 T.op, .int .i64 T.n, .string T.text, .slice a T.kids.length cap, .slice a' T.pats.length cap'] 32)) := (Below.refl _ w).alloc (Nat.le_refl _) _
 have hc := Check_any T _ _ (TmAt.keep (n₁ := (w.alloc (.cells #[.int .i64 T.op, .int .i64 T.n, .string T.text, .slice a T.kids.length cap, .slice a' T.pats.length cap'] 32)).heap.size) hb0 (by simp) _ _ hT) hh hm
 have HT := lh hT; have HC := lh hc; have HM := lh hm; have HB0 := lh hb0
 clear hT hc hm hb0
 go_enter Tryz.func47, Tryz.ntmps47
 go_wp2_with fail
 refine HC.o.mono ?_
 rintro e w1 ⟨rfl, hb1⟩
 have hx := bget' hb1 (heap_alloc_new w (.cells #[.int .i64 T.op, .int .i64 T.n, .string T.text, .slice a T.kids.length cap, .slice a' T.pats.length cap'] 32))
 obtain ⟨c0, c1, c2, c3, c4⟩ := cells5 hx
 have hb01 := HB0.o.trans (hb1.mono (by simp))
 have HB := lh hb01
 clear hx hb1 hb01 HC HB0
 cases hb : termB T
 ·have HBF := lh hb
  clear hb
  have he : errOf false = 2 := rfl
  rw [he]
  go_wp2
  refine bodyPost_ret (v := .tuple #[.slice none 0 0, .int .i64 2]) (by simp [results, Tryz.results47, go_sem]) rfl ⟨?_, HB.o⟩
  unfold FreeEnd; rw [HBF.o]; rfl
 ·have hs := HB.o.size
  have hfn := freeNames_any T _ w1 (TmAt.keep HB.o hs _ _ HT.o) (termB_okN hb HM.o) (by have := termB_frees hb (fun _ => false); omega)
  have HBF := lh hb; have HFN := lh hfn
  clear hb hfn
  have he : errOf true = 0 := rfl
  rw [he]
  go_wp2_with fail
  refine HFN.o.mono ?_
  rintro e w2 ⟨⟨v2, rfl, hsl⟩, hb2⟩
  obtain ⟨a2, cap2, rfl⟩ := hsl.split
  have HSL := lh hsl; have HB2 := lh hb2
  clear hsl hb2
  go_wp2
  refine bodyPost_ret (v := .tuple #[.slice a2 (freeL T).length cap2, .int .i64 0]) (by simp [results, Tryz.results47, go_sem]) rfl ⟨?_, HB.o.trans (HB2.o.mono hs)⟩
  unfold FreeEnd
  rw [HBF.o]
  exact ⟨_, rfl, HSL.o.mono (fun b h => ⟨by have := h.1; omega, h.2⟩) fun _ _ _ h => h⟩
mutual
def eqP : Pt → Pt → Bool
 | .mk f n t ps, .mk f' n' t' ps' => (f == f') && (n == n') && (t.toList == t'.toList) && eqPs ps ps'
def eqPs : List Pt → List Pt → Bool
 | [], [] => true
 | p :: ps, q :: qs => eqP p q && eqPs ps qs
 | [], _ :: _ => false
 | _ :: _, [] => false
end
theorem eqPs_drop (ps qs : List Pt) (k : Nat) (h1 : k < ps.length) (h2 : k < qs.length) : eqPs (ps.drop k) (qs.drop k) = (eqP ps[k] qs[k] && eqPs (ps.drop (k + 1)) (qs.drop (k + 1))) := by
 rw [drop_cons ps k h1, drop_cons qs k h2]
 conv => lhs; unfold eqPs
theorem eqPs_len : ∀ (ps qs : List Pt), ps.length ≠ qs.length → eqPs ps qs = false
 | [], [], h => (h rfl).elim
 | p :: ps, q :: qs, h => by unfold eqPs; rw [eqPs_len ps qs (by simpa using h), Bool.and_false]
 | [], _ :: _, _ => by unfold eqPs; rfl
 | _ :: _, [], _ => by unfold eqPs; rfl
set_option maxHeartbeats 2000000 in
set_option maxRecDepth 100000 in
theorem EqualFuncP_any (ps qs : List Pt) (v v' : Value) (w : World) (hv : SlV w.heap.size v ps.length fun b o => PtsAt w.heap.size w ps b o) (hv' : SlV w.heap.size v' qs.length fun b o => PtsAt w.heap.size w qs b o)
  (hl : ps.length ≤ 1000000)
  (hcall : ∀ (k : Nat) (h1 : k < ps.length) (h2 : k < qs.length) (v1 v2 : Value) (W : World), Below w.heap.size w W → PtAt W.heap.size W ps[k] v1 → PtAt W.heap.size W qs[k] v2 → Calls Tryz.prog 148 #[v1, v2] W fun e W' => e = .returned (.bool (eqP ps[k] qs[k])) ∧ Below W.heap.size W W') :
  Calls Tryz.prog 147 #[v, v', .func (.func 148) #[] #[]] w fun e w' => e = .returned (.bool (eqPs ps qs)) ∧ Below w.heap.size w w' := by
 obtain ⟨a, cap, rfl, hcap, hlc, hka⟩ := hv.split
 obtain ⟨a', cap', rfl, hcap', hlc', hka'⟩ := hv'.split
 clear hv hv'
 have HKA := lh hka; have HKA' := lh hka'; have HCL := lh hcall; clear hka hka' hcall
 go_enter Tryz.func147, Tryz.ntmps147
 by_cases hne : ps.length = qs.length
 ·have hni : (ps.length : Int) = (qs.length : Int) := by omega
  have HNE := lh hne
  clear hne
  go_wp2
  go_loopw [17] (fun i wr => ∃ k : Nat, k ≤ ps.length ∧ i = .int .i64 k ∧ Hid (eqPs ps qs = eqPs (ps.drop k) (qs.drop k)) ∧ Below w.heap.size w wr) (fun i _ => ps.length - (intOf i).toNat)
  case atStart => exact ⟨0, Nat.zero_le _, rfl, rfl, Below.refl _ _⟩
  case round =>
   obtain ⟨k, hk, rfl, hh, hB⟩ := hrel
   have hhn := HNE.o
   by_cases hlt : k < ps.length
   ·have hlt2 : k < qs.length := by omega
    obtain ⟨b, o, rfl, hbn, hss⟩ := HKA.o (by omega)
    obtain ⟨b', o', rfl, hbn', hss'⟩ := HKA'.o (by omega)
    obtain ⟨c0, c1, c2, c3, g0, g1, g2, g3, ht⟩ := PtsAt.get ps b o hss k hlt
    obtain ⟨d0, d1, d2, d3, i0, i1, i2, i3, ht'⟩ := PtsAt.get qs b' o' hss' k hlt2
    obtain ⟨oo, nn, tt, ka, kn, kc, rfl, rfl, rfl, rfl⟩ := ht.shape
    obtain ⟨oo', nn', tt', ka', kn', kc', rfl, rfl, rfl, rfl⟩ := ht'.shape
    have q0 := (hB.cell (p := ⟨b, _, none⟩) hbn).trans g0
    have q1 := (hB.cell (p := ⟨b, _, none⟩) hbn).trans g1
    have q2 := (hB.cell (p := ⟨b, _, none⟩) hbn).trans g2
    have q3 := (hB.cell (p := ⟨b, _, none⟩) hbn).trans g3
    have hB1 : Below w.heap.size w (wr.alloc (.cells #[.int .i64 oo, .int .i64 nn, .string tt, .slice ka kn kc] 35)) := hB.trans ((Below.refl _ wr).alloc hB.size _)
    have r0 := (hB1.cell (p := ⟨b', _, none⟩) hbn').trans i0
    have r1 := (hB1.cell (p := ⟨b', _, none⟩) hbn').trans i1
    have r2 := (hB1.cell (p := ⟨b', _, none⟩) hbn').trans i2
    have r3 := (hB1.cell (p := ⟨b', _, none⟩) hbn').trans i3
    have HB := lh hB; have HH := hh; have HT := lh ht; have HT' := lh ht'
    clear hB hh ht ht' hss hss' g0 g1 g2 g3 i0 i1 i2 i3 hhn
    go_upto_region 7 with fail
    have hB2 : Below w.heap.size w ((wr.alloc (.cells #[.int .i64 oo, .int .i64 nn, .string tt, .slice ka kn kc] 35)).alloc (.cells #[.int .i64 oo', .int .i64 nn', .string tt', .slice ka' kn' kc'] 35)) := hB1.trans ((Below.refl _ _).alloc hB1.size _)
    have hx1 : ((wr.alloc (.cells #[.int .i64 oo, .int .i64 nn, .string tt, .slice ka kn kc] 35)).alloc (.cells #[.int .i64 oo', .int .i64 nn', .string tt', .slice ka' kn' kc'] 35)).heap[wr.heap.size]? = some (.cells #[.int .i64 oo, .int .i64 nn, .string tt, .slice ka kn kc] 35 (0, 0)) := by rw [Below.heap_alloc _ _ _ (by simp)]; exact heap_alloc_new _ _
    have hx2 := heap_alloc_new (wr.alloc (.cells #[.int .i64 oo, .int .i64 nn, .string tt, .slice ka kn kc] 35)) (.cells #[.int .i64 oo', .int .i64 nn', .string tt', .slice ka' kn' kc'] 35)
    rw [World.size_alloc] at hx2
    generalize ((wr.alloc (.cells #[.int .i64 oo, .int .i64 nn, .string tt, .slice ka kn kc] 35)).alloc (.cells #[.int .i64 oo', .int .i64 nn', .string tt', .slice ka' kn' kc'] 35)) = W at *
    clear q0 q1 q2 q3 r0 r1 r2 r3
    obtain ⟨q0, q1, q2, q3⟩ := cells4 hx1
    obtain ⟨r0, r1, r2, r3⟩ := cells4 hx2
    have hcl := HCL.o k hlt hlt2 _ _ W hB2 (PtAt.keep hB2 hB2.size _ _ HT.o) (PtAt.keep hB2 hB2.size _ _ HT'.o)
    have HC := lh hcl; have HB2 := lh hB2
    have HD := lh (eqPs_drop ps qs k hlt hlt2)
    clear hcl hB1 hB2 hx1 hx2
    go_wp2_with fail
    refine HC.o.mono ?_
    rintro e w1 ⟨rfl, hb1⟩
    have HB1 := lh (HB2.o.trans (hb1.mono HB2.o.size))
    clear hb1 HC
    cases he : eqP ps[k] qs[k]
    ·have HF := lh (show eqPs ps qs = false by rw [HH.o, HD.o, he]; rfl)
     clear he
     go_wp2
     go_ret
     exact ⟨ret_bool HF.o.symm, HB1.o⟩
    ·have HF := lh (show eqPs ps qs = eqPs (ps.drop (k + 1)) (qs.drop (k + 1)) by rw [HH.o, HD.o, he]; rfl)
     clear he
     go_wp2
     go_roundw
     case rel => exact ⟨k + 1, by omega, by go_num, HF.o, HB1.o⟩
     case measure => simp [intOf]; omega
   ·obtain rfl : k = ps.length := by omega
    have HF := lh (show eqPs ps qs = true by rw [hh.o, List.drop_length, hhn, List.drop_length]; rfl)
    have HB := lh hB
    clear hh hB hhn
    go_wp2
    go_ret
    exact ⟨ret_bool HF.o.symm, HB.o⟩
 ·have hni : ¬ (ps.length : Int) = (qs.length : Int) := by omega
  have hf := eqPs_len ps qs hne
  have HF := lh hf
  clear hf hne
  go_wp2
  go_ret
  exact ⟨ret_bool HF.o.symm, Below.refl _ _⟩
set_option maxHeartbeats 2000000 in
set_option maxRecDepth 100000 in
theorem equalPat_any (p : Pt) : ∀ (q : Pt) (v v' : Value) (W : World), PtAt W.heap.size W p v → PtAt W.heap.size W q v' → lensP p → lensP q →
  Calls Tryz.prog 148 #[v, v'] W fun e W' => e = .returned (.bool (eqP p q)) ∧ Below W.heap.size W W' := by
 induction hT : SizeOf.sizeOf p using Nat.strongRecOn generalizing p with
 | _ m ih =>
 subst hT
 intro q v v' W hv hv' hlen hlen'
 have HIH := lh ih; clear ih
 cases p with
 | mk op n text ps =>
 cases q with
 | mk op' n' text' qs =>
 unfold PtAt at hv hv'
 obtain ⟨kv, rfl, -, hk⟩ := hv
 obtain ⟨kv', rfl, -, hk'⟩ := hv'
 obtain ⟨a, cap, rfl, -⟩ := hk.split
 obtain ⟨a', cap', rfl, -⟩ := hk'.split
 unfold lensP at hlen hlen'
 have hB2 : Below W.heap.size W ((W.alloc (.cells #[.int .i64 op, .int .i64 n, .string text, .slice a ps.length cap] 35)).alloc (.cells #[.int .i64 op', .int .i64 n', .string text', .slice a' qs.length cap'] 35)) := ((Below.refl _ W).alloc (Nat.le_refl _) _).alloc (by simp) _
 have hx1 : ((W.alloc (.cells #[.int .i64 op, .int .i64 n, .string text, .slice a ps.length cap] 35)).alloc (.cells #[.int .i64 op', .int .i64 n', .string text', .slice a' qs.length cap'] 35)).heap[W.heap.size]? = some (.cells #[.int .i64 op, .int .i64 n, .string text, .slice a ps.length cap] 35 (0, 0)) := by rw [Below.heap_alloc _ _ _ (by simp)]; exact heap_alloc_new _ _
 have hx2 := heap_alloc_new (W.alloc (.cells #[.int .i64 op, .int .i64 n, .string text, .slice a ps.length cap] 35)) (.cells #[.int .i64 op', .int .i64 n', .string text', .slice a' qs.length cap'] 35)
 rw [World.size_alloc] at hx2
 have HB2 := lh hB2; have HX1 := lh hx1; have HX2 := lh hx2; have HK := lh hk; have HK' := lh hk'; have HL := lh hlen; have HL' := lh hlen'
 clear hB2 hx1 hx2 hk hk' hlen hlen'
 have heq : eqP (.mk op n text ps) (.mk op' n' text' qs) = ((op == op') && (n == n') && (text.toList == text'.toList) && eqPs ps qs) := by
  conv => lhs; unfold eqP
 have HE := lh heq
 clear heq
 go_enter Tryz.func148, Tryz.ntmps148
 go_upto_region 1 with fail
 generalize ((W.alloc (.cells #[.int .i64 op, .int .i64 n, .string text, .slice a ps.length cap] 35)).alloc (.cells #[.int .i64 op', .int .i64 n', .string text', .slice a' qs.length cap'] 35)) = V at *
 obtain ⟨c0, c1, c2, c3⟩ := cells4 HX1.o
 obtain ⟨d0, d1, d2, d3⟩ := cells4 HX2.o
 by_cases h1 : op = op'
 ·by_cases h2 : n = n'
  ·by_cases h3 : (text.toList == text'.toList) = true
   ·have hsz := HB2.o.size
    have he := EqualFuncP_any ps qs (.slice a ps.length cap) (.slice a' qs.length cap') V (HK.o.mono hsz fun b o hlt hr => PtsAt.keep HB2.o hsz _ _ _ hlt hr) (HK'.o.mono hsz fun b o hlt hr => PtsAt.keep HB2.o hsz _ _ _ hlt hr) HL.o.1
     (fun k hk1 hk2 v1 v2 W1 _ hp1 hp2 => HIH.o _ (kid_ltP k hk1) ps[k] rfl qs[k] v1 v2 W1 hp1 hp2 (lensP_get HL.o.2 k hk1) (lensP_get HL'.o.2 k hk2))
    have HF := lh (show eqP (.mk op n text ps) (.mk op' n' text' qs) = eqPs ps qs by rw [HE.o, h3]; simp [h1, h2])
    have HC := lh he
    clear he
    subst h1 h2
    go_wp2_with fail
    refine HC.o.mono ?_
    rintro e w1 ⟨rfl, hb1⟩
    have HB1 := lh (HB2.o.trans (hb1.mono hsz))
    clear hb1 HC
    go_wp2
    go_ret
    exact ⟨ret_bool HF.o.symm, HB1.o⟩
   ·have h3' : (text.toList == text'.toList) = false := by simpa using h3
    have HF := lh (show eqP (.mk op n text ps) (.mk op' n' text' qs) = false by rw [HE.o, h3']; simp)
    subst h1 h2
    go_wp2
    go_ret
    exact ⟨ret_bool HF.o.symm, HB2.o⟩
  ·have HF := lh (show eqP (.mk op n text ps) (.mk op' n' text' qs) = false by rw [HE.o]; simp [h2])
   subst h1
   go_wp2
   go_ret
   exact ⟨ret_bool HF.o.symm, HB2.o⟩
 ·have HF := lh (show eqP (.mk op n text ps) (.mk op' n' text' qs) = false by rw [HE.o]; simp [h1])
  go_wp2
  go_ret
  exact ⟨ret_bool HF.o.symm, HB2.o⟩
mutual
def eqM : Tm → Tm → Bool
 | .mk f n t ks ps, .mk f' n' t' ks' ps' => (f == f') && (n == n') && (t.toList == t'.toList) && eqMs ks ks' && eqPs ps ps'
def eqMs : List Tm → List Tm → Bool
 | [], [] => true
 | p :: ps, q :: qs => eqM p q && eqMs ps qs
 | [], _ :: _ => false
 | _ :: _, [] => false
end
theorem eqMs_drop (ps qs : List Tm) (k : Nat) (h1 : k < ps.length) (h2 : k < qs.length) : eqMs (ps.drop k) (qs.drop k) = (eqM ps[k] qs[k] && eqMs (ps.drop (k + 1)) (qs.drop (k + 1))) := by
 rw [drop_cons ps k h1, drop_cons qs k h2]
 conv => lhs; unfold eqMs
theorem eqMs_len : ∀ (ps qs : List Tm), ps.length ≠ qs.length → eqMs ps qs = false
 | [], [], h => (h rfl).elim
 | p :: ps, q :: qs, h => by unfold eqMs; rw [eqMs_len ps qs (by simpa using h), Bool.and_false]
 | [], _ :: _, _ => by unfold eqMs; rfl
 | _ :: _, [], _ => by unfold eqMs; rfl
set_option maxHeartbeats 2000000 in
set_option maxRecDepth 100000 in
theorem EqualFuncM_any (ps qs : List Tm) (v v' : Value) (w : World) (hv : SlV w.heap.size v ps.length fun b o => TmsAt w.heap.size w ps b o) (hv' : SlV w.heap.size v' qs.length fun b o => TmsAt w.heap.size w qs b o)
  (hl : ps.length ≤ 1000000)
  (hcall : ∀ (k : Nat) (h1 : k < ps.length) (h2 : k < qs.length) (v1 v2 : Value) (W : World), Below w.heap.size w W → TmAt W.heap.size W ps[k] v1 → TmAt W.heap.size W qs[k] v2 → Calls Tryz.prog 111 #[v1, v2] W fun e W' => e = .returned (.bool (eqM ps[k] qs[k])) ∧ Below W.heap.size W W') :
  Calls Tryz.prog 146 #[v, v', .func (.func 111) #[] #[]] w fun e w' => e = .returned (.bool (eqMs ps qs)) ∧ Below w.heap.size w w' := by
 obtain ⟨a, cap, rfl, hcap, hlc, hka⟩ := hv.split
 obtain ⟨a', cap', rfl, hcap', hlc', hka'⟩ := hv'.split
 clear hv hv'
 have HKA := lh hka; have HKA' := lh hka'; have HCL := lh hcall; clear hka hka' hcall
 go_enter Tryz.func146, Tryz.ntmps146
 by_cases hne : ps.length = qs.length
 ·have hni : (ps.length : Int) = (qs.length : Int) := by omega
  have HNE := lh hne
  clear hne
  go_wp2
  go_loopw [17] (fun i wr => ∃ k : Nat, k ≤ ps.length ∧ i = .int .i64 k ∧ Hid (eqMs ps qs = eqMs (ps.drop k) (qs.drop k)) ∧ Below w.heap.size w wr) (fun i _ => ps.length - (intOf i).toNat)
  case atStart => exact ⟨0, Nat.zero_le _, rfl, rfl, Below.refl _ _⟩
  case round =>
   obtain ⟨k, hk, rfl, hh, hB⟩ := hrel
   have hhn := HNE.o
   by_cases hlt : k < ps.length
   ·have hlt2 : k < qs.length := by omega
    obtain ⟨b, o, rfl, hbn, hss⟩ := HKA.o (by omega)
    obtain ⟨b', o', rfl, hbn', hss'⟩ := HKA'.o (by omega)
    obtain ⟨c0, c1, c2, c3, c4, g0, g1, g2, g3, g4, ht⟩ := TmsAt.get ps b o hss k hlt
    obtain ⟨d0, d1, d2, d3, d4, i0, i1, i2, i3, i4, ht'⟩ := TmsAt.get qs b' o' hss' k hlt2
    obtain ⟨oo, nn, tt, ka, kn, kc, pa, pn, pc, rfl, rfl, rfl, rfl, rfl⟩ := ht.shape
    obtain ⟨oo', nn', tt', ka', kn', kc', pa', pn', pc', rfl, rfl, rfl, rfl, rfl⟩ := ht'.shape
    have q0 := (hB.cell (p := ⟨b, _, none⟩) hbn).trans g0
    have q1 := (hB.cell (p := ⟨b, _, none⟩) hbn).trans g1
    have q2 := (hB.cell (p := ⟨b, _, none⟩) hbn).trans g2
    have q3 := (hB.cell (p := ⟨b, _, none⟩) hbn).trans g3
    have q4 := (hB.cell (p := ⟨b, _, none⟩) hbn).trans g4
    have hB1 : Below w.heap.size w (wr.alloc (.cells #[.int .i64 oo, .int .i64 nn, .string tt, .slice ka kn kc, .slice pa pn pc] 32)) := hB.trans ((Below.refl _ wr).alloc hB.size _)
    have r0 := (hB1.cell (p := ⟨b', _, none⟩) hbn').trans i0
    have r1 := (hB1.cell (p := ⟨b', _, none⟩) hbn').trans i1
    have r2 := (hB1.cell (p := ⟨b', _, none⟩) hbn').trans i2
    have r3 := (hB1.cell (p := ⟨b', _, none⟩) hbn').trans i3
    have r4 := (hB1.cell (p := ⟨b', _, none⟩) hbn').trans i4
    have HB := lh hB; have HH := hh; have HT := lh ht; have HT' := lh ht'
    clear hB hh ht ht' hss hss' g0 g1 g2 g3 g4 i0 i1 i2 i3 i4 hhn
    go_upto_region 7 with fail
    have hB2 : Below w.heap.size w ((wr.alloc (.cells #[.int .i64 oo, .int .i64 nn, .string tt, .slice ka kn kc, .slice pa pn pc] 32)).alloc (.cells #[.int .i64 oo', .int .i64 nn', .string tt', .slice ka' kn' kc', .slice pa' pn' pc'] 32)) := hB1.trans ((Below.refl _ _).alloc hB1.size _)
    have hx1 : ((wr.alloc (.cells #[.int .i64 oo, .int .i64 nn, .string tt, .slice ka kn kc, .slice pa pn pc] 32)).alloc (.cells #[.int .i64 oo', .int .i64 nn', .string tt', .slice ka' kn' kc', .slice pa' pn' pc'] 32)).heap[wr.heap.size]? = some (.cells #[.int .i64 oo, .int .i64 nn, .string tt, .slice ka kn kc, .slice pa pn pc] 32 (0, 0)) := by rw [Below.heap_alloc _ _ _ (by simp)]; exact heap_alloc_new _ _
    have hx2 := heap_alloc_new (wr.alloc (.cells #[.int .i64 oo, .int .i64 nn, .string tt, .slice ka kn kc, .slice pa pn pc] 32)) (.cells #[.int .i64 oo', .int .i64 nn', .string tt', .slice ka' kn' kc', .slice pa' pn' pc'] 32)
    rw [World.size_alloc] at hx2
    generalize ((wr.alloc (.cells #[.int .i64 oo, .int .i64 nn, .string tt, .slice ka kn kc, .slice pa pn pc] 32)).alloc (.cells #[.int .i64 oo', .int .i64 nn', .string tt', .slice ka' kn' kc', .slice pa' pn' pc'] 32)) = W at *
    clear q0 q1 q2 q3 q4 r0 r1 r2 r3 r4
    obtain ⟨q0, q1, q2, q3, q4⟩ := cells5 hx1
    obtain ⟨r0, r1, r2, r3, r4⟩ := cells5 hx2
    have hcl := HCL.o k hlt hlt2 _ _ W hB2 (TmAt.keep hB2 hB2.size _ _ HT.o) (TmAt.keep hB2 hB2.size _ _ HT'.o)
    have HC := lh hcl; have HB2 := lh hB2
    have HD := lh (eqMs_drop ps qs k hlt hlt2)
    clear hcl hB1 hB2 hx1 hx2
    go_wp2_with fail
    refine HC.o.mono ?_
    rintro e w1 ⟨rfl, hb1⟩
    have HB1 := lh (HB2.o.trans (hb1.mono HB2.o.size))
    clear hb1 HC
    cases he : eqM ps[k] qs[k]
    ·have HF := lh (show eqMs ps qs = false by rw [HH.o, HD.o, he]; rfl)
     clear he
     go_wp2
     go_ret
     exact ⟨ret_bool HF.o.symm, HB1.o⟩
    ·have HF := lh (show eqMs ps qs = eqMs (ps.drop (k + 1)) (qs.drop (k + 1)) by rw [HH.o, HD.o, he]; rfl)
     clear he
     go_wp2
     go_roundw
     case rel => exact ⟨k + 1, by omega, by go_num, HF.o, HB1.o⟩
     case measure => simp [intOf]; omega
   ·obtain rfl : k = ps.length := by omega
    have HF := lh (show eqMs ps qs = true by rw [hh.o, List.drop_length, hhn, List.drop_length]; rfl)
    have HB := lh hB
    clear hh hB hhn
    go_wp2
    go_ret
    exact ⟨ret_bool HF.o.symm, HB.o⟩
 ·have hni : ¬ (ps.length : Int) = (qs.length : Int) := by omega
  have hf := eqMs_len ps qs hne
  have HF := lh hf
  clear hf hne
  go_wp2
  go_ret
  exact ⟨ret_bool HF.o.symm, Below.refl _ _⟩
set_option maxHeartbeats 2000000 in
set_option maxRecDepth 100000 in
theorem equal_any (p : Tm) : ∀ (q : Tm) (v v' : Value) (W : World), TmAt W.heap.size W p v → TmAt W.heap.size W q v' → lensM p → lensM q →
  Calls Tryz.prog 111 #[v, v'] W fun e W' => e = .returned (.bool (eqM p q)) ∧ Below W.heap.size W W' := by
 induction hT : SizeOf.sizeOf p using Nat.strongRecOn generalizing p with
 | _ m ih =>
 subst hT
 intro q v v' W hv hv' hlen hlen'
 have HIH := lh ih; clear ih
 cases p with
 | mk op n text ks ps =>
 cases q with
 | mk op' n' text' ls qs =>
 unfold TmAt at hv hv'
 obtain ⟨gv, kv, rfl, -, hg, hk⟩ := hv
 obtain ⟨gv', kv', rfl, -, hg', hk'⟩ := hv'
 obtain ⟨a, cap, rfl, -⟩ := hk.split
 obtain ⟨a', cap', rfl, -⟩ := hk'.split
 obtain ⟨f, fcap, rfl, -⟩ := hg.split
 obtain ⟨f', fcap', rfl, -⟩ := hg'.split
 unfold lensM at hlen hlen'
 have hB2 : Below W.heap.size W ((W.alloc (.cells #[.int .i64 op, .int .i64 n, .string text, .slice f ks.length fcap, .slice a ps.length cap] 32)).alloc (.cells #[.int .i64 op', .int .i64 n', .string text', .slice f' ls.length fcap', .slice a' qs.length cap'] 32)) := ((Below.refl _ W).alloc (Nat.le_refl _) _).alloc (by simp) _
 have hx1 : ((W.alloc (.cells #[.int .i64 op, .int .i64 n, .string text, .slice f ks.length fcap, .slice a ps.length cap] 32)).alloc (.cells #[.int .i64 op', .int .i64 n', .string text', .slice f' ls.length fcap', .slice a' qs.length cap'] 32)).heap[W.heap.size]? = some (.cells #[.int .i64 op, .int .i64 n, .string text, .slice f ks.length fcap, .slice a ps.length cap] 32 (0, 0)) := by rw [Below.heap_alloc _ _ _ (by simp)]; exact heap_alloc_new _ _
 have hx2 := heap_alloc_new (W.alloc (.cells #[.int .i64 op, .int .i64 n, .string text, .slice f ks.length fcap, .slice a ps.length cap] 32)) (.cells #[.int .i64 op', .int .i64 n', .string text', .slice f' ls.length fcap', .slice a' qs.length cap'] 32)
 rw [World.size_alloc] at hx2
 have HB2 := lh hB2; have HX1 := lh hx1; have HX2 := lh hx2; have HK := lh hk; have HK' := lh hk'; have HG := lh hg; have HG' := lh hg'; have HL := lh hlen; have HL' := lh hlen'
 clear hB2 hx1 hx2 hk hk' hg hg' hlen hlen'
 have heq : eqM (.mk op n text ks ps) (.mk op' n' text' ls qs) = ((op == op') && (n == n') && (text.toList == text'.toList) && eqMs ks ls && eqPs ps qs) := by
  conv => lhs; unfold eqM
 have HE := lh heq
 clear heq
 go_enter Tryz.func111, Tryz.ntmps111
 go_upto_region 1 with fail
 generalize ((W.alloc (.cells #[.int .i64 op, .int .i64 n, .string text, .slice f ks.length fcap, .slice a ps.length cap] 32)).alloc (.cells #[.int .i64 op', .int .i64 n', .string text', .slice f' ls.length fcap', .slice a' qs.length cap'] 32)) = V at *
 obtain ⟨c0, c1, c2, c3, c4⟩ := cells5 HX1.o
 obtain ⟨d0, d1, d2, d3, d4⟩ := cells5 HX2.o
 by_cases h1 : op = op'
 ·by_cases h2 : n = n'
  ·by_cases h3 : (text.toList == text'.toList) = true
   ·have hsz := HB2.o.size
    have he := EqualFuncM_any ks ls (.slice f ks.length fcap) (.slice f' ls.length fcap') V (HG.o.mono hsz fun b o hlt hr => TmsAt.keep HB2.o hsz _ _ _ hlt hr) (HG'.o.mono hsz fun b o hlt hr => TmsAt.keep HB2.o hsz _ _ _ hlt hr) HL.o.1
     (fun k hk1 hk2 v1 v2 W1 _ hp1 hp2 => HIH.o _ (kid_lt k hk1) ks[k] rfl ls[k] v1 v2 W1 hp1 hp2 (lensM_get HL.o.2.2.2 k hk1) (lensM_get HL'.o.2.2.2 k hk2))
    have HF := lh (show eqM (.mk op n text ks ps) (.mk op' n' text' ls qs) = (eqMs ks ls && eqPs ps qs) by rw [HE.o, h3]; simp [h1, h2])
    have HC := lh he
    clear he
    subst h1 h2
    go_wp2_with fail
    refine HC.o.mono ?_
    rintro e w1 ⟨rfl, hb1⟩
    have hB1 := HB2.o.trans (hb1.mono hsz)
    have hx1 := bget' hb1 HX1.o
    have hx2 := bget' hb1 HX2.o
    clear c0 c1 c2 c3 c4 d0 d1 d2 d3 d4
    obtain ⟨c0, c1, c2, c3, c4⟩ := cells5 hx1
    obtain ⟨d0, d1, d2, d3, d4⟩ := cells5 hx2
    cases hm : eqMs ks ls
    ·have HB1 := lh hB1
     have HF2 := lh (HF.o.trans (show (eqMs ks ls && eqPs ps qs) = false by rw [hm]; rfl))
     clear hb1 HC hB1 hx1 hx2 hm
     go_wp2
     go_ret
     exact ⟨ret_bool HF2.o.symm, HB1.o⟩
    ·have hsz1 := hB1.size
     have he2 := EqualFuncP_any ps qs (.slice a ps.length cap) (.slice a' qs.length cap') w1 (HK.o.mono hsz1 fun b o hlt hr => PtsAt.keep hB1 hsz1 _ _ _ hlt hr) (HK'.o.mono hsz1 fun b o hlt hr => PtsAt.keep hB1 hsz1 _ _ _ hlt hr) HL.o.2.1
      (fun k hk1 hk2 v1 v2 W1 _ hp1 hp2 => equalPat_any ps[k] qs[k] v1 v2 W1 hp1 hp2 (lensP_get HL.o.2.2.1 k hk1) (lensP_get HL'.o.2.2.1 k hk2))
     have HB1 := lh hB1; have HC2 := lh he2
     have HF2 := lh (HF.o.trans (show (eqMs ks ls && eqPs ps qs) = eqPs ps qs by rw [hm]; rfl))
     clear hb1 HC hB1 hx1 hx2 hm he2
     go_wp2_with fail
     refine HC2.o.mono ?_
     rintro e w2 ⟨rfl, hb2⟩
     have HB2' := lh (HB1.o.trans (hb2.mono hsz1))
     clear hb2 HC2
     go_wp2
     go_ret
     exact ⟨ret_bool HF2.o.symm, HB2'.o⟩
   ·have h3' : (text.toList == text'.toList) = false := by simpa using h3
    have HF := lh (show eqM (.mk op n text ks ps) (.mk op' n' text' ls qs) = false by rw [HE.o, h3']; simp)
    subst h1 h2
    go_wp2
    go_ret
    exact ⟨ret_bool HF.o.symm, HB2.o⟩
  ·have HF := lh (show eqM (.mk op n text ks ps) (.mk op' n' text' ls qs) = false by rw [HE.o]; simp [h2])
   subst h1
   go_wp2
   go_ret
   exact ⟨ret_bool HF.o.symm, HB2.o⟩
 ·have HF := lh (show eqM (.mk op n text ks ps) (.mk op' n' text' ls qs) = false by rw [HE.o]; simp [h1])
  go_wp2
  go_ret
  exact ⟨ret_bool HF.o.symm, HB2.o⟩
def canM (T : Tm) : Tm := (renM chNew ((freeL T).length, inL (freeL T)) [] T).1
theorem freeL_len (T : Tm) : (freeL T).length ≤ (frees (fun _ => false) T).length := by
 have : ∀ xs : List (List UInt8), (dd xs).length ≤ xs.length := by
  intro xs
  induction xs with
  | nil => exact Nat.le_refl _
  | cons x xs ih => unfold dd; split <;> simp <;> omega
 unfold freeL
 rw [List.length_map, List.length_mergeSort]
 exact this _
set_option maxHeartbeats 4000000 in
theorem canonical_any (T : Tm) (v : Value) (w : World) (hT : TmAt w.heap.size w T v) (hr : Ren T) (hl : (frees (fun _ => false) T).length ≤ 1000000) (hc : cntM T ≤ 90000000) :
  Calls Tryz.prog 112 #[v] w fun e w' => (∃ nv, e = .returned nv ∧ TmIn (Fresh w w') w' (canM T) nv) ∧ Below w.heap.size w w' := by
 obtain ⟨a, cap, a', cap', rfl, htx, hk, hps⟩ := hT.parts
 have hfl := freeL_len T
 have hb2 : Below w.heap.size w ((w.alloc (.cells #[.int .i64 T.op, .int .i64 T.n, .string T.text, .slice a T.kids.length cap, .slice a' T.pats.length cap'] 32)).alloc (.cells #[.int .i64 0, .int .i64 0, .string ⟨#[]⟩, .slice none 0 0, .slice none 0 0] 32)) := ((Below.refl _ w).alloc (Nat.le_refl _) _).alloc (by simp) _
 have hs2 : ((w.alloc (.cells #[.int .i64 T.op, .int .i64 T.n, .string T.text, .slice a T.kids.length cap, .slice a' T.pats.length cap'] 32)).alloc (.cells #[.int .i64 0, .int .i64 0, .string ⟨#[]⟩, .slice none 0 0, .slice none 0 0] 32)).heap.size = w.heap.size + 2 := by simp
 have hx0 : ((w.alloc (.cells #[.int .i64 T.op, .int .i64 T.n, .string T.text, .slice a T.kids.length cap, .slice a' T.pats.length cap'] 32)).alloc (.cells #[.int .i64 0, .int .i64 0, .string ⟨#[]⟩, .slice none 0 0, .slice none 0 0] 32)).heap[w.heap.size]? = some (.cells #[.int .i64 T.op, .int .i64 T.n, .string T.text, .slice a T.kids.length cap, .slice a' T.pats.length cap'] 32 (0, 0)) := by
  rw [Below.heap_alloc _ _ _ (by simp)]; exact heap_alloc_new _ _
 have hx1 : ((w.alloc (.cells #[.int .i64 T.op, .int .i64 T.n, .string T.text, .slice a T.kids.length cap, .slice a' T.pats.length cap'] 32)).alloc (.cells #[.int .i64 0, .int .i64 0, .string ⟨#[]⟩, .slice none 0 0, .slice none 0 0] 32)).heap[w.heap.size + 1]? = some (.cells #[.int .i64 0, .int .i64 0, .string ⟨#[]⟩, .slice none 0 0, .slice none 0 0] 32 (0, 0)) := by
  have := heap_alloc_new (w.alloc (.cells #[.int .i64 T.op, .int .i64 T.n, .string T.text, .slice a T.kids.length cap, .slice a' T.pats.length cap'] 32)) (.cells #[.int .i64 0, .int .i64 0, .string ⟨#[]⟩, .slice none 0 0, .slice none 0 0] 32); simpa using this
 have HT := lh hT
 clear hT hk hps htx
 go_enter Tryz.func112, Tryz.ntmps112
 go_upto_region 1 with fail
 generalize ((w.alloc (.cells #[.int .i64 T.op, .int .i64 T.n, .string T.text, .slice a T.kids.length cap, .slice a' T.pats.length cap'] 32)).alloc (.cells #[.int .i64 0, .int .i64 0, .string ⟨#[]⟩, .slice none 0 0, .slice none 0 0] 32)) = V at *
 obtain ⟨c0, c1, c2, c3, c4⟩ := cells5 hx0
 have HF := lh (freeNames_any T _ V (TmAt.keep hb2 (by omega) _ _ HT.o) hr.ok hl)
 have HB2 := lh hb2; have HS2 := lh hs2; have HX0 := lh hx0; have HX1 := lh hx1
 clear hb2 hs2 hx0 hx1
 go_wp2_with fail
 refine HF.o.mono ?_
 rintro e w1 ⟨⟨fv, rfl, hfv⟩, hb1⟩
 obtain ⟨fa, fcap, rfl⟩ := hfv.split
 have hs1 := hb1.size
 have hb1a : Below w1.heap.size w1 (w1.alloc (.cells #[.slice fa (freeL T).length fcap] 22)) := (Below.refl _ w1).alloc (Nat.le_refl _) _
 have hxa := heap_alloc_new w1 (.cells #[.slice fa (freeL T).length fcap] 22)
 have hrs := reserve_any [freeL T] w1.heap.size 0 1 (w1.alloc (.cells #[.slice fa (freeL T).length fcap] 22)) (by simp) (fun i hi => by
  obtain rfl : i = 0 := by simpa using hi
  refine ⟨_, cell_of_one hxa, ?_⟩
  show SlV _ (.slice fa (freeL T).length fcap) (freeL T).length fun b o => StrsAt _ (freeL T) b o
  exact (hfv.to (n₀ := w1.heap.size) (fun b h => h.2) (fun _ _ h => h)).mono (by simp) fun b o hlt hr => StrsAt.keep hb1a _ _ _ hlt hr) (by simp; omega) (by simp)
 rw [show [freeL T].flatten = freeL T by simp] at hrs
 have HR := lh hrs; have HB1 := lh hb1
 have hba : Below V.heap.size V (w1.alloc (.cells #[.slice fa (freeL T).length fcap] 22)) := hb1.trans (hb1a.mono hs1)
 have HBA := lh hba; have HSA := lh (show (w1.alloc (.cells #[.slice fa (freeL T).length fcap] 22)).heap.size = w1.heap.size + 1 by simp)
 clear hrs hb1 hb1a hxa hfv HF c0 c1 c2 c3 c4 hba
 go_wp2_with fail
 refine HR.o.mono ?_
 rintro e w2 ⟨rfl, hset, hb2⟩
 rw [HSA.o] at hset
 have hs2 := hb2.size
 rw [HSA.o] at hs2
 have hVw2 : Below V.heap.size V w2 := HBA.o.trans (hb2.mono (by rw [HSA.o]; omega))
 have HSET := lh hset; have HVW := lh hVw2
 clear hset hb2 HR hVw2
 go_upto_region 2 with fail
 have hb3 : Below w2.heap.size w2 (w2.alloc (.cells #[.map (some (w1.heap.size + 1 + 1))] 87)) := (Below.refl _ w2).alloc (Nat.le_refl _) _
 have hx3 := heap_alloc_new w2 (.cells #[.map (some (w1.heap.size + 1 + 1))] 87)
 have hs3 : (w2.alloc (.cells #[.map (some (w1.heap.size + 1 + 1))] 87)).heap.size = w2.heap.size + 1 := by simp
 generalize (w2.alloc (.cells #[.map (some (w1.heap.size + 1 + 1))] 87)) = W3 at *
 have hVW : Below V.heap.size V W3 := HVW.o.trans (hb3.mono HVW.o.size)
 have hsV := HS2.o
 have hsVW := HVW.o.size
 have hmb := HSET.o.lt
 have hy0 := bget' hVW HX0.o
 obtain ⟨c0, c1, c2, c3, c4⟩ := cells5 hy0
 have hwW : Below w.heap.size w W3 := HB2.o.trans (hVW.mono (by omega))
 have hch := chs_new W3 w2.heap.size (w1.heap.size + 1 + 1) hx3 (by omega)
 have hren := renamed_any hch T [] ((freeL T).length, inL (freeL T)) w.heap.size (fun _ => False) (.agg #[.int .i64 T.op, .int .i64 T.n, .string T.text, .slice a T.kids.length cap, .slice a' T.pats.length cap']) (.pointer none) W3
  (TmAt.keep hwW (Nat.le_refl _) _ _ HT.o) hr (by rintro b rfl; exact ⟨by omega, by omega⟩) (Nat.le_refl _) hwW.size (fun b h => h.elim) rfl (by show (freeL T).length + cntM T ≤ 100000000; omega)
  ⟨HSET.o.here hb3, hx3, by omega⟩
 have HREN := lh hren; have HVW3 := lh hVW; have HWW := lh hwW
 clear hren hVW hwW hch hb3 hx3 hy0
 go_wp2_with fail
 refine HREN.o.mono ?_
 rintro e w4 ⟨⟨nv, rfl, hnv⟩, -, hk4⟩
 obtain ⟨o2, n2, t2, ka2, kn2, kc2, pa2, pn2, pc2, rfl⟩ := TmIn.shape hnv
 have hs4 := hk4.size
 have y1 := hk4.get (bget' HVW3.o HX1.o) (by omega)
 obtain ⟨d0, d1, d2, d3, d4⟩ := cells5 y1
 have f1 := free_box y1
 have HNV := lh hnv; have HK4 := lh hk4
 clear hnv hk4 y1 HREN c0 c1 c2 c3 c4
 go_wp2
 have hkp := kept5 w4 (w.heap.size + 1) (.int .i64 o2) (.int .i64 n2) (.string t2) (.slice ka2 kn2 kc2) (.slice pa2 pn2 pc2)
 have hsz := hkp.size
 refine bodyPost_ret (v := .agg #[.int .i64 o2, .int .i64 n2, .string t2, .slice ka2 kn2 kc2, .slice pa2 pn2 pc2]) (by simp [results, Tryz.results112, go_sem, d0, d1, d2, d3, d4]) rfl ⟨⟨_, rfl, ?_⟩, ?_⟩
 ·exact TmIn.keep (fun b (h : Fresh W3 w4 b) => hkp.block b h.2 (by have := h.1; omega)) (fun b h => ⟨by have := h.1; omega, by have := h.2; omega⟩) _ _ HNV.o
 ·exact HWW.o.trans ((HK4.o.below (by have := HWW.o.size; omega) (by rintro b rfl; omega)).trans (hkp.below (by omega) (by rintro b rfl; omega)))
theorem fits_pats {T : Tm} (h : T.fits = true) : T.pats.length ≤ 5 ∧ ∀ p ∈ T.pats, patB p = true := by
 cases T with
 | mk op n text kids pats => exact (fits_okN h).2.2.2
theorem fits_shape {T : Tm} (h : T.fits = true) : T.kids.length ≤ 6 ∧ shapeT T := by
 have hp := (fits_pats h).1
 unfold Tm.fits at h
 simp only [Bool.and_eq_true] at h
 obtain ⟨⟨⟨h1, -⟩, -⟩, -⟩ := h
 unfold kidsFitB at h1
 unfold shapeT
 repeat' split at h1
 all_goals simp only [decide_eq_true_eq, Bool.false_eq_true] at h1
 all_goals (refine ⟨by omega, fun h => by omega, fun h => by omega, fun h => by omega⟩)
theorem fits_bound {T : Tm} (h : T.fits = true) (k : Nat) : (boundL T k).length ≤ 12 := by
 have hp := (fits_pats h).2
 unfold boundL
 split
 ·simp
 ·split
  ·cases hx : T.pats[k - 1]? with
   | none => simp
   | some p =>
    have hm : p ∈ T.pats := List.mem_of_getElem? hx
    have h1 := patB_len (hp p hm)
    have h2 := namesL_len ((partsP 1 p).map (·.2))
    unfold namesP
    simp at h2 ⊢
    omega
  ·simp
theorem bndK_le {bnd : Nat → List ByteArray} (h : ∀ k, (bnd k).length ≤ 12) : ∀ n, bndK bnd n ≤ 12 * n
 | 0 => Nat.le_refl _
 | n + 1 => by have h1 := bndK_le h n; have h2 := h n; simp only [bndK]; omega
mutual
theorem okS_of : ∀ (T : Tm) (d : Int), (∀ x ∈ partsM d T, x.2.fits = true) → okS T ∧ cntM T ≤ 72 * (partsM d T).length
 | .mk op n text kids pats, d, hf => by
  have h0 := hf (d, .mk op n text kids pats) (by unfold partsM; exact List.mem_cons_self)
  have h1 := okSs_of kids (d + 1) fun x hx => hf x (by unfold partsM; exact List.mem_cons_of_mem _ hx)
  have h2 := fits_shape h0
  have h3 := bndK_le (bnd := boundL (.mk op n text kids pats)) (fits_bound h0) kids.length
  have h4 : kids.length ≤ 6 := h2.1
  unfold okS cntM partsM
  rw [List.length_cons]
  exact ⟨⟨h2.2, h1.1⟩, by omega⟩
theorem okSs_of : ∀ (ts : List Tm) (d : Int), (∀ x ∈ partssM d ts, x.2.fits = true) → okSs ts ∧ cntK ts ≤ 72 * (partssM d ts).length
 | [], _, _ => ⟨trivial, Nat.zero_le _⟩
 | t :: ts, d, hf => by
  have h1 := okS_of t d fun x hx => hf x (by unfold partssM; exact List.mem_append_left _ hx)
  have h2 := okSs_of ts d fun x hx => hf x (by unfold partssM; exact List.mem_append_right _ hx)
  unfold okSs cntK partssM
  rw [List.length_append]
  exact ⟨⟨h1.1, h2.1⟩, by omega⟩
end
theorem termB_ren {T : Tm} (h : termB T = true) (hf : Fit T) : Ren T := ⟨termB_okN h hf.ok, hf.len, (okS_of T 1 (goM_all _ 0 h)).1⟩
theorem termB_cnt {T : Tm} (h : termB T = true) : cntM T ≤ 4320 := by
 have h1 := goM_len _ 0 h (by omega)
 have h2 := (okS_of T 1 (goM_all _ 0 h)).2
 omega
def CanonEnd (T : Tm) (w : World) (e : Ending) (w' : World) : Prop :=
 if termB T then ∃ nv, e = .returned (.tuple #[nv, .int .i64 0]) ∧ TmIn (Fresh w w') w' (canM T) nv else e = .returned (.tuple #[zeroV, .int .i64 2])
set_option maxHeartbeats 2000000 in
theorem Canon_any (T : Tm) (v : Value) (w : World) (hT : TmAt w.heap.size w T v) (hf : Fit T) : Calls Tryz.prog 53 #[v] w fun e w' => CanonEnd T w e w' ∧ Below w.heap.size w w' := by
 obtain ⟨a, cap, a', cap', rfl, -, -, -⟩ := hT.parts
 have hb2 : Below w.heap.size w ((w.alloc (.cells #[.int .i64 T.op, .int .i64 T.n, .string T.text, .slice a T.kids.length cap, .slice a' T.pats.length cap'] 32)).alloc (.cells #[.int .i64 0, .int .i64 0, .string ⟨#[]⟩, .slice none 0 0, .slice none 0 0] 32)) := ((Below.refl _ w).alloc (Nat.le_refl _) _).alloc (by simp) _
 have hs2 : ((w.alloc (.cells #[.int .i64 T.op, .int .i64 T.n, .string T.text, .slice a T.kids.length cap, .slice a' T.pats.length cap'] 32)).alloc (.cells #[.int .i64 0, .int .i64 0, .string ⟨#[]⟩, .slice none 0 0, .slice none 0 0] 32)).heap.size = w.heap.size + 2 := by simp
 have hx0 : ((w.alloc (.cells #[.int .i64 T.op, .int .i64 T.n, .string T.text, .slice a T.kids.length cap, .slice a' T.pats.length cap'] 32)).alloc (.cells #[.int .i64 0, .int .i64 0, .string ⟨#[]⟩, .slice none 0 0, .slice none 0 0] 32)).heap[w.heap.size]? = some (.cells #[.int .i64 T.op, .int .i64 T.n, .string T.text, .slice a T.kids.length cap, .slice a' T.pats.length cap'] 32 (0, 0)) := by
  rw [Below.heap_alloc _ _ _ (by simp)]; exact heap_alloc_new _ _
 have hx1 : ((w.alloc (.cells #[.int .i64 T.op, .int .i64 T.n, .string T.text, .slice a T.kids.length cap, .slice a' T.pats.length cap'] 32)).alloc (.cells #[.int .i64 0, .int .i64 0, .string ⟨#[]⟩, .slice none 0 0, .slice none 0 0] 32)).heap[w.heap.size + 1]? = some (.cells #[.int .i64 0, .int .i64 0, .string ⟨#[]⟩, .slice none 0 0, .slice none 0 0] 32 (0, 0)) := by
  have := heap_alloc_new (w.alloc (.cells #[.int .i64 T.op, .int .i64 T.n, .string T.text, .slice a T.kids.length cap, .slice a' T.pats.length cap'] 32)) (.cells #[.int .i64 0, .int .i64 0, .string ⟨#[]⟩, .slice none 0 0, .slice none 0 0] 32); simpa using this
 have HT := lh hT
 clear hT
 go_enter Tryz.func53, Tryz.ntmps53
 go_upto_region 1 with fail
 generalize ((w.alloc (.cells #[.int .i64 T.op, .int .i64 T.n, .string T.text, .slice a T.kids.length cap, .slice a' T.pats.length cap'] 32)).alloc (.cells #[.int .i64 0, .int .i64 0, .string ⟨#[]⟩, .slice none 0 0, .slice none 0 0] 32)) = V at *
 obtain ⟨c0, c1, c2, c3, c4⟩ := cells5 hx0
 have HC := lh (Check_any T _ V (TmAt.keep hb2 (by omega) _ _ HT.o) hf.h hf.ok)
 have HB2 := lh hb2; have HS2 := lh hs2; have HX0 := lh hx0; have HX1 := lh hx1
 clear hb2 hs2 hx0 hx1
 go_wp2_with fail
 refine HC.o.mono ?_
 rintro e w1 ⟨rfl, hb1⟩
 have hbw := HB2.o.trans (hb1.mono (by have := HS2.out; omega))
 have hsw := hb1.size
 have hs2 := HS2.o
 have y0 := bget' hb1 HX0.o
 have y1 := bget' hb1 HX1.o
 clear c0 c1 c2 c3 c4
 obtain ⟨c0, c1, c2, c3, c4⟩ := cells5 y0
 obtain ⟨d0, d1, d2, d3, d4⟩ := cells5 y1
 have f1 := free_box y1
 have HBW := lh hbw; have HY1 := lh y1
 clear hb1 hbw y0 y1 HC
 cases hb : termB T
 ·have HBF := lh hb
  clear hb
  have he : errOf false = 2 := rfl
  rw [he]
  go_wp2
  refine bodyPost_ret (v := .tuple #[zeroV, .int .i64 2]) (by simp [results, Tryz.results53, go_sem, d0, d1, d2, d3, d4, zeroV]) rfl ⟨?_, HBW.o.trans ((kept5 _ _ _ _ _ _ _).below (by omega) (by rintro b rfl; omega))⟩
  unfold CanonEnd; rw [HBF.o]; rfl
 ·have hcn := canonical_any T _ w1 (TmAt.keep HBW.o (by omega) _ _ HT.o) (termB_ren hb hf) (by have := termB_frees hb (fun _ => false); omega) (by have := termB_cnt hb; omega)
  have HBF := lh hb; have HCN := lh hcn
  clear hb hcn
  have he : errOf true = 0 := rfl
  rw [he]
  go_wp2_with fail
  refine HCN.o.mono ?_
  rintro e w2 ⟨⟨nv, rfl, hnv⟩, hb2⟩
  obtain ⟨o2, n2, t2, ka2, kn2, kc2, pa2, pn2, pc2, rfl⟩ := TmIn.shape hnv
  have hs3 := hb2.size
  have y1 := bget' hb2 HY1.o
  clear d0 d1 d2 d3 d4 f1 c0 c1 c2 c3 c4
  obtain ⟨d0, d1, d2, d3, d4⟩ := cells5 y1
  have f1 := free_box y1
  have HNV := lh hnv; have HB2' := lh hb2
  clear hnv hb2 y1 HCN
  go_wp2
  have hkp := kept5 w2 (w.heap.size + 1) (.int .i64 o2) (.int .i64 n2) (.string t2) (.slice ka2 kn2 kc2) (.slice pa2 pn2 pc2)
  have hsz := hkp.size
  refine bodyPost_ret (v := .tuple #[.agg #[.int .i64 o2, .int .i64 n2, .string t2, .slice ka2 kn2 kc2, .slice pa2 pn2 pc2], .int .i64 0]) (by simp [results, Tryz.results53, go_sem, d0, d1, d2, d3, d4]) rfl ⟨?_, (HBW.o.trans (HB2'.o.mono (by omega))).trans (hkp.below (by omega) (by rintro b rfl; omega))⟩
  unfold CanonEnd
  rw [HBF.o]
  exact ⟨_, rfl, TmIn.keep (fun b (h : Fresh w1 w2 b) => hkp.block b h.2 (by have := h.1; omega)) (fun b h => ⟨by have := h.1; omega, by have := h.2; omega⟩) _ _ HNV.o⟩
mutual
theorem lensP_ren (sc : Sc) : ∀ (p : Pt), lensP p → lensP (renP sc p)
 | .mk f n t ps, h => by
  unfold lensP at h
  unfold renP lensP
  exact ⟨by rw [renPs_map, List.length_map]; exact h.1, lenssP_ren sc ps h.2⟩
theorem lenssP_ren (sc : Sc) : ∀ (ps : List Pt), lenssP ps → lenssP (renPs sc ps)
 | [], _ => trivial
 | p :: ps, h => by
  unfold lenssP at h
  unfold renPs lenssP
  exact ⟨lensP_ren sc p h.1, lenssP_ren sc ps h.2⟩
end
theorem lenssP_all : ∀ {ps : List Pt}, (∀ p ∈ ps, lensP p) → lenssP ps
 | [], _ => trivial
 | p :: ps, h => by unfold lenssP; exact ⟨h p (List.mem_cons_self), lenssP_all fun q hq => h q (List.mem_cons_of_mem _ hq)⟩
theorem rebPats_lens {T : Tm} (h : lensM T) (scs : List Sc) : (rebPats T scs).length ≤ 1000000 ∧ lenssP (rebPats T scs) := by
 cases T with
 | mk op n text kids pats =>
  unfold lensM at h
  unfold rebPats
  split
  ·refine ⟨by simp; exact h.2.1, lenssP_all fun p hp => ?_⟩
   obtain ⟨i, hi, rfl⟩ := List.mem_map.1 hp
   have hi' : i < pats.length := List.mem_range.1 hi
   have hg : pats.getD i default = pats[i] := by rw [List.getD_eq_getElem?_getD, List.getElem?_eq_getElem hi']; rfl
   show lensP (renP _ (pats.getD i default))
   rw [hg]
   exact lensP_ren _ _ (lensP_get h.2.2.1 i hi')
  ·exact ⟨Nat.zero_le _, trivial⟩
mutual
theorem lensM_ren (ch : Ch) : ∀ (T : Tm) (σ : NS) (sc : Sc), lensM T → lensM (renM ch σ sc T).1
 | .mk op n text kids pats, σ, sc, h => by
  have h0 := rebPats_lens h (scp ch (boundL (.mk op n text kids pats)) sc σ kids.length).1
  unfold lensM at h
  unfold renM lensM
  exact ⟨by rw [renK_len]; exact h.1, h0.1, h0.2, lensK_ren ch kids _ _ h.2.2.2⟩
theorem lensK_ren (ch : Ch) : ∀ (ks : List Tm) (σ : NS) (scs : List Sc), lenssM ks → lenssM (renK ch σ scs ks).1
 | [], _, _, _ => by unfold renK; trivial
 | k :: ks, σ, scs, h => by
  unfold lenssM at h
  unfold renK lenssM
  exact ⟨lensM_ren ch k _ _ h.1, lensK_ren ch ks _ _ h.2⟩
end
def AlikeEnd (S T : Tm) (e : Ending) : Prop := e = .returned (if termB S && termB T then .tuple #[.bool (eqM (canM S) (canM T)), .int .i64 0] else .tuple #[.bool false, .int .i64 2])
set_option maxHeartbeats 4000000 in
theorem Alike_any (S T : Tm) (v v' : Value) (w : World) (hS : TmAt w.heap.size w S v) (hT : TmAt w.heap.size w T v') (hfS : Fit S) (hfT : Fit T) : Calls Tryz.prog 52 #[v, v'] w fun e w' => AlikeEnd S T e ∧ Below w.heap.size w w' := by
 obtain ⟨a, cap, a', cap', rfl, -, -, -⟩ := hS.parts
 obtain ⟨b, bcap, b', bcap', rfl, -, -, -⟩ := hT.parts
 have hb2 : Below w.heap.size w ((w.alloc (.cells #[.int .i64 S.op, .int .i64 S.n, .string S.text, .slice a S.kids.length cap, .slice a' S.pats.length cap'] 32)).alloc (.cells #[.int .i64 T.op, .int .i64 T.n, .string T.text, .slice b T.kids.length bcap, .slice b' T.pats.length bcap'] 32)) := ((Below.refl _ w).alloc (Nat.le_refl _) _).alloc (by simp) _
 have hs2 : ((w.alloc (.cells #[.int .i64 S.op, .int .i64 S.n, .string S.text, .slice a S.kids.length cap, .slice a' S.pats.length cap'] 32)).alloc (.cells #[.int .i64 T.op, .int .i64 T.n, .string T.text, .slice b T.kids.length bcap, .slice b' T.pats.length bcap'] 32)).heap.size = w.heap.size + 2 := by simp
 have hx0 : ((w.alloc (.cells #[.int .i64 S.op, .int .i64 S.n, .string S.text, .slice a S.kids.length cap, .slice a' S.pats.length cap'] 32)).alloc (.cells #[.int .i64 T.op, .int .i64 T.n, .string T.text, .slice b T.kids.length bcap, .slice b' T.pats.length bcap'] 32)).heap[w.heap.size]? = some (.cells #[.int .i64 S.op, .int .i64 S.n, .string S.text, .slice a S.kids.length cap, .slice a' S.pats.length cap'] 32 (0, 0)) := by
  rw [Below.heap_alloc _ _ _ (by simp)]; exact heap_alloc_new _ _
 have hx1 : ((w.alloc (.cells #[.int .i64 S.op, .int .i64 S.n, .string S.text, .slice a S.kids.length cap, .slice a' S.pats.length cap'] 32)).alloc (.cells #[.int .i64 T.op, .int .i64 T.n, .string T.text, .slice b T.kids.length bcap, .slice b' T.pats.length bcap'] 32)).heap[w.heap.size + 1]? = some (.cells #[.int .i64 T.op, .int .i64 T.n, .string T.text, .slice b T.kids.length bcap, .slice b' T.pats.length bcap'] 32 (0, 0)) := by
  have := heap_alloc_new (w.alloc (.cells #[.int .i64 S.op, .int .i64 S.n, .string S.text, .slice a S.kids.length cap, .slice a' S.pats.length cap'] 32)) (.cells #[.int .i64 T.op, .int .i64 T.n, .string T.text, .slice b T.kids.length bcap, .slice b' T.pats.length bcap'] 32); simpa using this
 have HS := lh hS; have HT := lh hT
 clear hS hT
 go_enter Tryz.func52, Tryz.ntmps52
 go_upto_region 1 with fail
 generalize ((w.alloc (.cells #[.int .i64 S.op, .int .i64 S.n, .string S.text, .slice a S.kids.length cap, .slice a' S.pats.length cap'] 32)).alloc (.cells #[.int .i64 T.op, .int .i64 T.n, .string T.text, .slice b T.kids.length bcap, .slice b' T.pats.length bcap'] 32)) = V at *
 obtain ⟨c0, c1, c2, c3, c4⟩ := cells5 hx0
 have HC := lh (Check_any S _ V (TmAt.keep hb2 (by omega) _ _ HS.o) hfS.h hfS.ok)
 have HB2 := lh hb2; have HS2 := lh hs2; have HX0 := lh hx0; have HX1 := lh hx1
 clear hb2 hs2 hx0 hx1
 cases hb : termB S
 ·have HBF := lh hb
  rw [hb] at HC
  clear hb
  have he : errOf false = 2 := rfl
  rw [he] at HC
  go_wp2_with fail
  refine HC.o.mono ?_
  rintro e w1 ⟨rfl, hb1⟩
  have HBW := lh (HB2.o.trans (hb1.mono (by have := HS2.out; omega)))
  clear hb1 c0 c1 c2 c3 c4 HC
  go_wp2
  refine bodyPost_ret (v := .tuple #[.bool false, .int .i64 2]) (by simp [results, Tryz.results52, go_sem]) rfl ⟨?_, HBW.o⟩
  unfold AlikeEnd; rw [HBF.o]; rfl
 ·have HBF := lh hb
  rw [hb] at HC
  clear hb
  have he : errOf true = 0 := rfl
  rw [he] at HC
  go_wp2_with fail
  refine HC.o.mono ?_
  rintro e w1 ⟨rfl, hb1⟩
  have hbw := HB2.o.trans (hb1.mono (by have := HS2.out; omega))
  have hsw := hbw.size
  have y1 := bget' hb1 HX1.o
  have HY0 := lh (bget' hb1 HX0.o); have HY1 := lh y1
  clear c0 c1 c2 c3 c4
  obtain ⟨d0, d1, d2, d3, d4⟩ := cells5 y1
  have HC2 := lh (Check_any T _ w1 (TmAt.keep hbw hsw _ _ HT.o) hfT.h hfT.ok)
  have HBW := lh hbw
  clear hb1 hbw y1 HC
  cases hb : termB T
  ·have HBT := lh hb
   rw [hb] at HC2
   clear hb
   have he : errOf false = 2 := rfl
   rw [he] at HC2
   go_wp2_with fail
   refine HC2.o.mono ?_
   rintro e w2 ⟨rfl, hb2⟩
   have HBW2 := lh (HBW.o.trans (hb2.mono hsw))
   clear hb2 d0 d1 d2 d3 d4 HC2
   go_wp2
   refine bodyPost_ret (v := .tuple #[.bool false, .int .i64 2]) (by simp [results, Tryz.results52, go_sem]) rfl ⟨?_, HBW2.o⟩
   unfold AlikeEnd; rw [HBF.o, HBT.o]; rfl
  ·have HBT := lh hb
   rw [hb] at HC2
   clear hb
   have he : errOf true = 0 := rfl
   rw [he] at HC2
   go_wp2_with fail
   refine HC2.o.mono ?_
   rintro e w2 ⟨rfl, hb2⟩
   have HBW2 := lh (HBW.o.trans (hb2.mono hsw))
   have hs2 := HBW2.o.size
   have HZ0 := lh (bget' hb2 HY0.o); have HZ1 := lh (bget' hb2 HY1.o)
   clear hb2 d0 d1 d2 d3 d4 HC2
   go_upto_region 3 with fail
   have hbd : Below w.heap.size w w2.drew := HBW2.o.trans (below_drew _ _)
   have hc1 := canonical_any S _ w2.drew (TmAt.keep hbd hbd.size _ _ HS.o) (termB_ren HBF.o hfS) (by have := termB_frees HBF.o (fun _ => false); omega) (by have := termB_cnt HBF.out; omega)
   have hS0 := And.intro (cells5 (W := w2.drew) HZ0.o) (cells5 (W := w2.drew) HZ1.o)
   have HCA := lh hc1; have HBD := lh hbd
   clear hc1 hbd
   go_region_held3 (fun w' => (w'.cell? ⟨w.heap.size, 0, none⟩ = some (.int .i64 S.op) ∧ w'.cell? ⟨w.heap.size, 1, none⟩ = some (.int .i64 S.n) ∧ w'.cell? ⟨w.heap.size, 2, none⟩ = some (.string S.text) ∧ w'.cell? ⟨w.heap.size, 3, none⟩ = some (.slice a S.kids.length cap) ∧ w'.cell? ⟨w.heap.size, 4, none⟩ = some (.slice a' S.pats.length cap')) ∧ (w'.cell? ⟨w.heap.size + 1, 0, none⟩ = some (.int .i64 T.op) ∧ w'.cell? ⟨w.heap.size + 1, 1, none⟩ = some (.int .i64 T.n) ∧ w'.cell? ⟨w.heap.size + 1, 2, none⟩ = some (.string T.text) ∧ w'.cell? ⟨w.heap.size + 1, 3, none⟩ = some (.slice b T.kids.length bcap) ∧ w'.cell? ⟨w.heap.size + 1, 4, none⟩ = some (.slice b' T.pats.length bcap')))
    (first | exact hS0 | exact hS1 | exact hS2 | exact hS3)
    (first
     | (go_at_call 112; have tok1 := HCA; refine HCA.o.mono ?_; rintro e w3 ⟨⟨nv, rfl, hnv⟩, hb3⟩; have hS1 := And.intro (cells5 (bget' (A := w2.drew) hb3 HZ0.o)) (cells5 (bget' (A := w2.drew) hb3 HZ1.o)); have hbd3 := HBD.o.trans (hb3.mono HBD.o.size)
        have HCB := lh (canonical_any T _ w3 (TmAt.keep hbd3 hbd3.size _ _ HT.o) (termB_ren HBT.o hfT) (by have := termB_frees HBT.o (fun _ => false); omega) (by have := termB_cnt HBT.out; omega))
        have HNV := lh hnv; have HB3 := lh hb3; have HBD3 := lh hbd3; clear hnv hb3 hbd3 tok1 HCA hS0)
     | (go_at_call 112; refine HCB.o.mono ?_; rintro e w4 ⟨⟨nv', rfl, hnv'⟩, hb4⟩; have hS2 := And.intro (cells5 (bget' hb4 (bget' (A := w2.drew) HB3.o HZ0.o))) (cells5 (bget' hb4 (bget' (A := w2.drew) HB3.o HZ1.o)))
        have HEQ := lh (equal_any (canM S) (canM T) nv nv' w4 (TmAt.keep hb4 hb4.size _ _ (TmNew.at HNV.o)) (TmNew.at hnv') (lensM_ren _ _ _ _ hfS.len) (lensM_ren _ _ _ _ hfT.len)); have HBD4 := lh (HBD3.o.trans (hb4.mono HBD3.o.size)); have HB4 := lh hb4; clear hnv' hb4 HCB hS1)
     | (go_at_call 111; refine HEQ.o.mono ?_; rintro e w5 ⟨rfl, hb5⟩; have hS3 := And.intro (cells5 (bget' hb5 (bget' HB4.o (bget' (A := w2.drew) HB3.o HZ0.o)))) (cells5 (bget' hb5 (bget' HB4.o (bget' (A := w2.drew) HB3.o HZ1.o)))); have HBD5 := lh (HBD4.o.trans (hb5.mono HBD4.o.size)); clear hb5 HEQ hS2))
   go_wp2
   refine bodyPost_ret (v := .tuple #[.bool (eqM (canM S) (canM T)), .int .i64 0]) (by simp [results, Tryz.results52, go_sem]) rfl ⟨?_, HBD5.o⟩
   unfold AlikeEnd; rw [HBF.o, HBT.o]; rfl
def subF (nm : ByteArray) (by' : Tm) : Nat → Tm → Tm
 | 0, T => T
 | f + 1, T =>
  if hasL (freeL T) nm = false then T
  else if T.op = 4 then by'
  else .mk T.op T.n (rebText T (scs108 (freeL by') nm T)) ((List.range T.kids.length).map fun i =>
    if (findS ((scs108 (freeL by') nm T).getD i []) nm).isSome then (renM chSame (0, fun _ => false) ((scs108 (freeL by') nm T).getD i []) (T.kids.getD i default)).1
    else subF nm by' f (renM chSame (0, fun _ => false) ((scs108 (freeL by') nm T).getD i []) (T.kids.getD i default)).1) (rebPats T (scs108 (freeL by') nm T))
mutual
theorem height_renP (sc : Sc) : ∀ (p : Pt), heightP (renP sc p) = heightP p
 | .mk f n t ps => by unfold renP heightP; rw [heights_renP sc ps]
theorem heights_renP (sc : Sc) : ∀ (ps : List Pt), heightsP (renPs sc ps) = heightsP ps
 | [] => rfl
 | p :: ps => by unfold renPs heightsP; rw [height_renP sc p, heights_renP sc ps]
end
mutual
theorem forms_renP (sc : Sc) : ∀ (p : Pt) (d : Int), (partsP d (renP sc p)).map (fun x => x.2.form) = (partsP d p).map (fun x => x.2.form)
 | .mk f n t ps, d => by
  unfold renP partsP
  simp only [List.map_cons]
  rw [forms_renPs sc ps (d + 1)]
  rfl
theorem forms_renPs (sc : Sc) : ∀ (ps : List Pt) (d : Int), (partssP d (renPs sc ps)).map (fun x => x.2.form) = (partssP d ps).map (fun x => x.2.form)
 | [], _ => rfl
 | p :: ps, d => by
  unfold renPs partssP
  simp only [List.map_append]
  rw [forms_renP sc p d, forms_renPs sc ps d]
end
theorem parts_renP (sc : Sc) (p : Pt) (d : Int) : (partsP d (renP sc p)).length = (partsP d p).length := by
 have := congrArg List.length (forms_renP sc p d)
 simpa using this
theorem names_renP (sc : Sc) (p : Pt) : (namesP (renP sc p)).length = (namesP p).length := by
 have key : ∀ (q : Pt), (namesP q).length = (((partsP 1 q).map (fun x => x.2.form)).filter fun f => decide (f = 2)).length := by
  intro q
  unfold namesP namesL
  rw [List.length_map, List.filter_map, List.filter_map, List.length_map, List.length_map]
  rfl
 rw [key, key, forms_renP]
theorem rebPats_get {T : Tm} {scs : List Sc} {p : Pt} (h : p ∈ rebPats T scs) : ∃ sc, ∃ q ∈ T.pats, p = renP sc q := by
 unfold rebPats at h
 split at h
 ·obtain ⟨i, hi, rfl⟩ := List.mem_map.1 h
  have hi' : i < T.pats.length := List.mem_range.1 hi
  refine ⟨scs.getD (i + 1) [], T.pats[i], List.getElem_mem hi', ?_⟩
  rw [List.getD_eq_getElem?_getD (l := T.pats), List.getElem?_eq_getElem hi']; rfl
 ·cases h
theorem rebPats_len {T : Tm} {scs : List Sc} (h : T.op = 15) : (rebPats T scs).length = T.pats.length := by unfold rebPats; rw [if_pos h]; simp
theorem kidsR (ch : Ch) (σ : NS) (sc : Sc) (T : Tm) : (renM ch σ sc T).1.kids = (renK ch (scp ch (boundL T) sc σ T.kids.length).2 (scp ch (boundL T) sc σ T.kids.length).1 T.kids).1 := by rw [renM_eq]; rfl
theorem opR (ch : Ch) (σ : NS) (sc : Sc) (T : Tm) : (renM ch σ sc T).1.op = T.op := by rw [renM_eq]; rfl
theorem patsR (ch : Ch) (σ : NS) (sc : Sc) (T : Tm) : (renM ch σ sc T).1.pats = rebPats T (scp ch (boundL T) sc σ T.kids.length).1 := by rw [renM_eq]; rfl
theorem klenR (ch : Ch) (σ : NS) (sc : Sc) (T : Tm) : (renM ch σ sc T).1.kids.length = T.kids.length := by rw [kidsR, renK_len]
theorem bound_ren (ch : Ch) (σ : NS) (sc : Sc) (T : Tm) (k : Nat) : (boundL (renM ch σ sc T).1 k).length = (boundL T k).length := by
 unfold boundL
 rw [opR, patsR]
 split
 ·rfl
 ·split
  ·rename_i h
   have hl := rebPats_len (T := T) (scs := (scp ch (boundL T) sc σ T.kids.length).1) h.1
   rcases Nat.lt_or_ge (k - 1) T.pats.length with hk | hk
   ·have hk' : k - 1 < (rebPats T (scp ch (boundL T) sc σ T.kids.length).1).length := by omega
    rw [List.getElem?_eq_getElem hk, List.getElem?_eq_getElem hk']
    have hg : (rebPats T (scp ch (boundL T) sc σ T.kids.length).1)[k - 1] = renP ((scp ch (boundL T) sc σ T.kids.length).1.getD (k - 1 + 1) []) T.pats[k - 1] := by
     simp only [rebPats, if_pos h.1, List.getElem_map, List.getElem_range]
     rw [List.getD_eq_getElem?_getD (l := T.pats), List.getElem?_eq_getElem hk]; rfl
    simp [hg, names_renP]
   ·rw [List.getElem?_eq_none hk, List.getElem?_eq_none (by omega)]
  ·rfl
mutual
def okB : Tm → Prop
 | .mk op n text kids pats => kids.length ≤ 6 ∧ (∀ k, (boundL (.mk op n text kids pats) k).length ≤ 12) ∧ okBs kids
def okBs : List Tm → Prop
 | [] => True
 | k :: ks => okB k ∧ okBs ks
end
mutual
def cntN : Tm → Nat
 | .mk _ _ _ kids _ => 1 + cntNs kids
def cntNs : List Tm → Nat
 | [] => 0
 | k :: ks => cntN k + cntNs ks
end
theorem okB_eq (T : Tm) : okB T ↔ T.kids.length ≤ 6 ∧ (∀ k, (boundL T k).length ≤ 12) ∧ okBs T.kids := by
 cases T with
 | mk op n text kids pats => unfold okB; exact Iff.rfl
theorem okS_eq (T : Tm) : okS T ↔ shapeT T ∧ okSs T.kids := by
 cases T with
 | mk op n text kids pats => unfold okS; exact Iff.rfl
theorem cntN_eq (T : Tm) : cntN T = 1 + cntNs T.kids := by
 cases T with
 | mk op n text kids pats => unfold cntN; rfl
theorem height_eq (T : Tm) : heightM T = heightsM T.kids + 1 := by
 cases T with
 | mk op n text kids pats => unfold heightM; rfl
theorem okBs_get : ∀ {ks : List Tm}, okBs ks → ∀ (k : Nat) (h : k < ks.length), okB ks[k]
 | p :: ps, h, 0, _ => by unfold okBs at h; exact h.1
 | p :: ps, h, k + 1, hk => by unfold okBs at h; exact okBs_get h.2 k (by simpa using hk)
theorem cntNs_get : ∀ {ks : List Tm} (k : Nat) (h : k < ks.length), cntN ks[k] ≤ cntNs ks
 | p :: ps, 0, _ => by unfold cntNs; exact Nat.le_add_right _ _
 | p :: ps, k + 1, hk => by have := cntNs_get (ks := ps) k (by simpa using hk); unfold cntNs; simp only [List.getElem_cons_succ]; omega
structure Sub (T : Tm) : Prop where
 ren : Ren T
 h : heightM T ≤ 1000
 nb : okB T
 cnt : cntN T ≤ 1000
theorem Sub.kid {T : Tm} (h : Sub T) (k : Nat) (hk : k < T.kids.length) : Sub T.kids[k] := by
 have h1 := heightsM_get T.kids k hk
 have h2 := h.h
 have h3 := cntNs_get k hk
 have h4 := h.cnt
 rw [height_eq] at h2
 rw [cntN_eq] at h4
 exact ⟨h.ren.kid k hk, by omega, okBs_get ((okB_eq T).1 h.nb).2.2 k hk, by omega⟩
theorem okN_ren_top {ch : Ch} {σ : NS} {sc : Sc} {T : Tm} (h : okN T) (hks : okNs (renM ch σ sc T).1.kids) : okN (renM ch σ sc T).1 := by
 obtain ⟨h1, h2, h3, h4, h5, -⟩ := (okN_eq T).1 h
 refine (okN_eq _).2 ⟨?_, ?_, ?_, ?_, ?_, hks⟩
 ·intro h15
  rw [opR] at h15
  rw [klenR, patsR, rebPats_len h15]
  exact h1 h15
 ·intro h4'
  rw [opR] at h4'
  have := h2 h4'
  refine List.eq_nil_of_length_eq_zero ?_
  rw [klenR, this]; rfl
 ·rw [klenR]; exact h3
 ·rw [patsR]
  unfold rebPats
  split
  ·simp; exact h4
  ·simp
 ·intro p hp
  rw [patsR] at hp
  obtain ⟨sc', q, hq, rfl⟩ := rebPats_get hp
  rw [height_renP, parts_renP]
  exact h5 q hq
theorem shape_ren {ch : Ch} {σ : NS} {sc : Sc} {T : Tm} (h : shapeT T) : shapeT (renM ch σ sc T).1 := by
 obtain ⟨h1, h2, h3⟩ := h
 unfold shapeT
 rw [opR, klenR, patsR]
 exact ⟨h1, h2, fun h15 => by rw [rebPats_len h15]; exact h3 h15⟩
mutual
theorem ren_keeps (ch : Ch) : ∀ (T : Tm) (σ : NS) (sc : Sc), okN T → okS T → okB T → (okN (renM ch σ sc T).1 ∧ okS (renM ch σ sc T).1 ∧ okB (renM ch σ sc T).1) ∧ heightM (renM ch σ sc T).1 = heightM T ∧ cntN (renM ch σ sc T).1 = cntN T
 | .mk op n text kids pats, σ, sc, h1, h2, h3 => by
  have k1 := ((okN_eq _).1 h1).2.2.2.2.2
  have k2 := (okS_eq _).1 h2
  have k3 := (okB_eq _).1 h3
  have hk := rens_keeps ch kids (scp ch (boundL (.mk op n text kids pats)) sc σ kids.length).2 (scp ch (boundL (.mk op n text kids pats)) sc σ kids.length).1 k1 k2.2 k3.2.2
  have hkk := kidsR ch σ sc (.mk op n text kids pats)
  have e1 : (renM ch σ sc (.mk op n text kids pats)).1.kids = (renK ch (scp ch (boundL (.mk op n text kids pats)) sc σ kids.length).2 (scp ch (boundL (.mk op n text kids pats)) sc σ kids.length).1 kids).1 := hkk
  refine ⟨⟨okN_ren_top h1 (by rw [e1]; exact hk.1.1), (okS_eq _).2 ⟨shape_ren k2.1, by rw [e1]; exact hk.1.2.1⟩, (okB_eq _).2 ⟨by rw [klenR]; exact k3.1, fun k => by rw [bound_ren]; exact k3.2.1 k, by rw [e1]; exact hk.1.2.2⟩⟩, ?_, ?_⟩
  ·rw [height_eq, e1, hk.2.1]; unfold heightM; rfl
  ·rw [cntN_eq, e1, hk.2.2]; unfold cntN; rfl
theorem rens_keeps (ch : Ch) : ∀ (ks : List Tm) (σ : NS) (scs : List Sc), okNs ks → okSs ks → okBs ks → (okNs (renK ch σ scs ks).1 ∧ okSs (renK ch σ scs ks).1 ∧ okBs (renK ch σ scs ks).1) ∧ heightsM (renK ch σ scs ks).1 = heightsM ks ∧ cntNs (renK ch σ scs ks).1 = cntNs ks
 | [], _, _, _, _, _ => ⟨⟨trivial, trivial, trivial⟩, rfl, rfl⟩
 | k :: ks, σ, scs, h1, h2, h3 => by
  unfold okNs at h1
  unfold okSs at h2
  unfold okBs at h3
  have a := ren_keeps ch k σ (scs.headD []) h1.1 h2.1 h3.1
  have b := rens_keeps ch ks (renM ch σ (scs.headD []) k).2 scs.tail h1.2 h2.2 h3.2
  unfold renK okNs okSs okBs heightsM cntNs
  exact ⟨⟨⟨a.1.1, b.1.1⟩, ⟨a.1.2.1, b.1.2.1⟩, ⟨a.1.2.2, b.1.2.2⟩⟩, by rw [a.2.1, b.2.1], by rw [a.2.2, b.2.2]⟩
end
theorem Sub.renM {ch : Ch} {σ : NS} {sc : Sc} {T : Tm} (h : Sub T) : Sub (renM ch σ sc T).1 := by
 have hk := ren_keeps ch T σ sc h.ren.ok h.ren.sh h.nb
 exact ⟨⟨hk.1.1, lensM_ren ch T σ sc h.ren.len, hk.1.2.1⟩, by rw [hk.2.1]; exact h.h, hk.1.2.2, by rw [hk.2.2]; exact h.cnt⟩
mutual
theorem parts_cnt : ∀ (T : Tm) (d : Int), (partsM d T).length = cntN T
 | .mk op n text kids pats, d => by unfold partsM cntN; rw [List.length_cons, parts_cnts kids]; omega
theorem parts_cnts : ∀ (ts : List Tm) (d : Int), (partssM d ts).length = cntNs ts
 | [], _ => rfl
 | t :: ts, d => by unfold partssM cntNs; rw [List.length_append, parts_cnt t, parts_cnts ts]
end
theorem bndL_12 {T : Tm} (h : ∀ k, (boundL T k).length ≤ 12) : ∀ n, (bndL T n).length ≤ 12 * n
 | 0 => Nat.le_refl _
 | n + 1 => by have h1 := bndL_12 h n; have h2 := h n; simp only [bndL, List.length_append]; omega
theorem standN_73 {T : Tm} (h : okB T) : (standN T).length ≤ 73 := by
 obtain ⟨h1, h2, -⟩ := (okB_eq T).1 h
 have h3 := bndL_12 h2 T.kids.length
 unfold standN
 rw [List.length_append]
 split <;> simp <;> omega
mutual
theorem stand_le : ∀ (T : Tm) (d : Int), okB T → (standLs ((partsM d T).map (·.2))).length ≤ 73 * cntN T
 | .mk op n text kids pats, d, h => by
  have h0 := standN_73 h
  have h1 := stands_le kids (d + 1) ((okB_eq _).1 h).2.2
  unfold partsM cntN
  simp only [List.map_cons, standLs, List.length_append]
  omega
theorem stands_le : ∀ (ts : List Tm) (d : Int), okBs ts → (standLs ((partssM d ts).map (·.2))).length ≤ 73 * cntNs ts
 | [], _, _ => Nat.zero_le _
 | t :: ts, d, h => by
  unfold okBs at h
  have h1 := stand_le t d h.1
  have h2 := stands_le ts d h.2
  unfold partssM cntNs
  simp only [List.map_append, standLs_append, List.length_append]
  omega
end
mutual
theorem cntM_le : ∀ (T : Tm), okB T → cntM T ≤ 72 * cntN T
 | .mk op n text kids pats, h => by
  obtain ⟨h1, h2, h3⟩ := (okB_eq _).1 h
  have h4 := bndK_le h2 kids.length
  have h5 := cntK_le kids h3
  have h6 : kids.length ≤ 6 := h1
  unfold cntM cntN
  omega
theorem cntK_le : ∀ (ts : List Tm), okBs ts → cntK ts ≤ 72 * cntNs ts
 | [], _ => Nat.le_refl _
 | t :: ts, h => by
  unfold okBs at h
  have h1 := cntM_le t h.1
  have h2 := cntK_le ts h.2
  unfold cntK cntNs
  omega
end
theorem Sub.stand {T : Tm} (h : Sub T) : (standL T).length ≤ 73000 := by
 have h1 := stand_le T 1 h.nb
 have h2 := h.cnt
 unfold standL
 omega
theorem Sub.frees {T : Tm} (h : Sub T) (bd : List UInt8 → Bool) : (frees bd T).length ≤ 1000 := by
 have h1 := frees_len T bd 1
 have h2 := h.cnt
 rw [parts_cnt] at h1
 omega
theorem Sub.cntM {T : Tm} (h : Sub T) : cntM T ≤ 72000 := by
 have h1 := cntM_le T h.nb
 have h2 := h.cnt
 omega
theorem Sub.bndK {T : Tm} (h : Sub T) : bndK (boundL T) T.kids.length ≤ 72 := by
 obtain ⟨h1, h2, -⟩ := (okB_eq T).1 h.nb
 have h4 := bndK_le h2 T.kids.length
 omega
end Go.Proofs.YtjpahjfjpkbcnaaGreat
