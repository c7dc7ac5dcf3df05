/- Contracts of the program's functions. -/
import Derived.Test.YtjpahjfjpkbcnaaGreatB16
import Derived.Test.YtjpahjfjpkbcnaaGreatB15
import Derived.Test.YtjpahjfjpkbcnaaGreatB04
import Derived.Test.YtjpahjfjpkbcnaaGreatB08

namespace Go.Proofs.YtjpahjfjpkbcnaaGreat
open Go.Proofs Go.RowKit
attribute [local go_sem] eval_put_same eval_put_ne size_put
end Go.Proofs.YtjpahjfjpkbcnaaGreat
namespace Go.Proofs.YtjpahjfjpkbcnaaGreat
open Go.Proofs Go.RowKit
mutual
def stP : Tm → List ByteArray
 | .mk op n text kids pats => (if op = 4 then [text] else []) ++ stK (boundL (.mk op n text kids pats)) kids 0
def stK (bnd : Nat → List ByteArray) : List Tm → Nat → List ByteArray
 | [], _ => []
 | k :: ks, i => bnd i ++ stP k ++ stK bnd ks (i + 1)
end
theorem stP_mk (op n : Int) (text : ByteArray) (kids : List Tm) (pats : List Pt) : stP (.mk op n text kids pats) = (if op = 4 then [text] else []) ++ stK (boundL (.mk op n text kids pats)) kids 0 := by
 conv => lhs; unfold stP
theorem stK_nil (bnd : Nat → List ByteArray) (i : Nat) : stK bnd [] i = [] := by unfold stK; rfl
theorem stK_cons (bnd : Nat → List ByteArray) (k : Tm) (ks : List Tm) (i : Nat) : stK bnd (k :: ks) i = bnd i ++ stP k ++ stK bnd ks (i + 1) := by conv => lhs; unfold stK
theorem okFs_iff : ∀ {ks : List Tm}, okFs ks ↔ ∀ t ∈ ks, okF t
 | [] => by unfold okFs; simp
 | k :: ks => by unfold okFs; rw [okFs_iff]; simp
theorem okBs_iff : ∀ {ks : List Tm}, okBs ks ↔ ∀ t ∈ ks, okB t
 | [] => by unfold okBs; simp
 | k :: ks => by unfold okBs; rw [okBs_iff]; simp
theorem lenssM_iff : ∀ {ks : List Tm}, lenssM ks ↔ ∀ t ∈ ks, lensM t
 | [] => by unfold lenssM; simp
 | k :: ks => by unfold lenssM; rw [lenssM_iff]; simp
theorem lenssP_iff : ∀ {ps : List Pt}, lenssP ps ↔ ∀ p ∈ ps, lensP p
 | [] => by unfold lenssP; simp
 | k :: ks => by unfold lenssP; rw [lenssP_iff]; simp
mutual
theorem patsB_rn (nm ot : ByteArray) (hot : nameB ot = true) : ∀ (p : Pt), patsB p = true → patsB (rnP nm ot p) = true
 | .mk f n t ps, h => by
  unfold patsB at h
  rw [Bool.and_eq_true] at h
  unfold rnP patsB
  rw [Bool.and_eq_true, rnPs_map, List.length_map, ← rnPs_map]
  refine ⟨?_, patssB_rn nm ot hot ps h.2⟩
  split
  ·rename_i hc
   obtain ⟨rfl, -⟩ := hc
   have h1 := h.1
   simp only [patFitB] at h1 ⊢
   simp at h1 ⊢
   exact ⟨⟨h1.1.1, hot⟩, h1.2⟩
  ·exact h.1
theorem patssB_rn (nm ot : ByteArray) (hot : nameB ot = true) : ∀ (ps : List Pt), patssB ps = true → patssB (rnPs nm ot ps) = true
 | [], h => by unfold rnPs; exact h
 | p :: ps, h => by
  unfold patssB at h
  rw [Bool.and_eq_true] at h
  unfold rnPs patssB
  rw [Bool.and_eq_true]
  exact ⟨patsB_rn nm ot hot p h.1, patssB_rn nm ot hot ps h.2⟩
end
mutual
theorem forms_rnP (nm ot : ByteArray) : ∀ (p : Pt) (d : Int), (partsP d (rnP nm ot p)).map (fun x => x.2.form) = (partsP d p).map (fun x => x.2.form)
 | .mk f n t ps, d => by
  unfold rnP partsP
  simp only [List.map_cons]
  rw [forms_rnPs nm ot ps (d + 1)]
  rfl
theorem forms_rnPs (nm ot : ByteArray) : ∀ (ps : List Pt) (d : Int), (partssP d (rnPs nm ot ps)).map (fun x => x.2.form) = (partssP d ps).map (fun x => x.2.form)
 | [], _ => by unfold rnPs; rfl
 | p :: ps, d => by
  unfold rnPs partssP
  simp only [List.map_append]
  rw [forms_rnP nm ot p d, forms_rnPs nm ot ps d]
end
theorem parts_rnP (nm ot : ByteArray) (p : Pt) (d : Int) : (partsP d (rnP nm ot p)).length = (partsP d p).length := by
 have := congrArg List.length (forms_rnP nm ot p d)
 simpa using this
theorem names_rnP (nm ot : ByteArray) (p : Pt) : (namesP (rnP nm ot p)).length = (namesP p).length := by
 have key : ∀ (q : Pt), (namesP q).length = (((partsP 1 q).map (fun x => x.2.form)).filter fun f => decide (f = 2)).length := by
  intro q
  unfold namesP namesL
  rw [List.length_map, List.filter_map, List.filter_map, List.length_map, List.length_map]
  rfl
 rw [key, key, forms_rnP]
mutual
theorem lensP_rn (nm ot : ByteArray) : ∀ (p : Pt), lensP p → lensP (rnP nm ot p)
 | .mk f n t ps, h => by
  unfold lensP at h
  unfold rnP lensP
  exact ⟨by rw [rnPs_map, List.length_map]; exact h.1, lenssP_rn nm ot ps h.2⟩
theorem lenssP_rn (nm ot : ByteArray) : ∀ (ps : List Pt), lenssP ps → lenssP (rnPs nm ot ps)
 | [], _ => by unfold rnPs; trivial
 | p :: ps, h => by
  unfold lenssP at h
  unfold rnPs lenssP
  exact ⟨lensP_rn nm ot p h.1, lenssP_rn nm ot ps h.2⟩
end
theorem boundL_4 (n : Int) (t : ByteArray) (ks : List Tm) (ps : List Pt) (k : Nat) : boundL (.mk 4 n t ks ps) k = [] := by
 unfold boundL
 rw [if_neg (by show ¬ ((4 : Int) = 5 ∨ (4 : Int) = 27 ∨ ((4 : Int) = 7 ∧ k = 1)); omega), if_neg (by show ¬ ((4 : Int) = 15 ∧ 0 < k); omega)]
theorem boundL_kids (op n n' : Int) (t : ByteArray) (ks ks' : List Tm) (ps : List Pt) (k : Nat) : boundL (.mk op n t ks ps) k = boundL (.mk op n' t ks' ps) k := rfl
theorem bound_rnM (nm ot : ByteArray) (T : Tm) (k : Nat) : boundL (rnM nm ot T) k = boundL T k := by
 cases T with
 | mk op n t ks ps =>
  rw [rnM_mk]
  split
  ·rename_i h; subst h; rw [boundL_4, boundL_4]
  ·exact boundL_kids _ _ _ _ _ _ _ _
mutual
theorem okF_rn (nm ot : ByteArray) : ∀ (T : Tm), okF T → okF (rnM nm ot T)
 | .mk op n t ks ps, h => by
  rw [rnM_mk]
  split
  ·unfold okF at h ⊢; exact h
  ·unfold okF at h ⊢
   rw [rnK_len]
   exact ⟨h.1, h.2.1, h.2.2.1, okFs_rn nm ot _ ks 0 h.2.2.2⟩
theorem okFs_rn (nm ot : ByteArray) (bnd : Nat → List ByteArray) : ∀ (ts : List Tm) (i : Nat), okFs ts → okFs (rnK nm ot bnd ts i)
 | [], _, _ => by rw [rnK_nil]; unfold okFs; trivial
 | t :: ts, i, h => by
  unfold okFs at h
  rw [rnK_cons]
  unfold okFs
  refine ⟨?_, okFs_rn nm ot bnd ts (i + 1) h.2⟩
  split
  ·exact h.1
  ·exact okF_rn nm ot t h.1
end
mutual
theorem lensM_rn (nm ot : ByteArray) : ∀ (T : Tm), lensM T → lensM (rnM nm ot T)
 | .mk op n t ks ps, h => by
  rw [rnM_mk]
  split
  ·unfold lensM at h ⊢; exact h
  ·unfold lensM at h ⊢
   rw [rnK_len]
   exact ⟨h.1, h.2.1, h.2.2.1, lenssM_rn nm ot _ ks 0 h.2.2.2⟩
theorem lenssM_rn (nm ot : ByteArray) (bnd : Nat → List ByteArray) : ∀ (ts : List Tm) (i : Nat), lenssM ts → lenssM (rnK nm ot bnd ts i)
 | [], _, _ => by rw [rnK_nil]; unfold lenssM; trivial
 | t :: ts, i, h => by
  unfold lenssM at h
  rw [rnK_cons]
  unfold lenssM
  refine ⟨?_, lenssM_rn nm ot bnd ts (i + 1) h.2⟩
  split
  ·exact h.1
  ·exact lensM_rn nm ot t h.1
end
mutual
theorem okB_rn (nm ot : ByteArray) : ∀ (T : Tm), okB T → okB (rnM nm ot T)
 | .mk op n t ks ps, h => by
  have hb := bound_rnM nm ot (.mk op n t ks ps)
  rw [okB_eq] at h
  rw [okB_eq]
  refine ⟨?_, fun k => by rw [hb k]; exact h.2.1 k, ?_⟩
  ·rw [rnM_mk]
   split
   ·exact h.1
   ·show (rnK nm ot _ ks 0).length ≤ 6
    rw [rnK_len]; exact h.1
  ·rw [rnM_mk]
   split
   ·exact h.2.2
   ·exact okBs_rn nm ot _ ks 0 h.2.2
theorem okBs_rn (nm ot : ByteArray) (bnd : Nat → List ByteArray) : ∀ (ts : List Tm) (i : Nat), okBs ts → okBs (rnK nm ot bnd ts i)
 | [], _, _ => by rw [rnK_nil]; unfold okBs; trivial
 | t :: ts, i, h => by
  unfold okBs at h
  rw [rnK_cons]
  unfold okBs
  refine ⟨?_, okBs_rn nm ot bnd ts (i + 1) h.2⟩
  split
  ·exact h.1
  ·exact okB_rn nm ot t h.1
end
mutual
theorem cntN_rn (nm ot : ByteArray) : ∀ (T : Tm), cntN (rnM nm ot T) = cntN T
 | .mk op n t ks ps => by
  rw [rnM_mk]
  split
  ·rw [cntN_eq, cntN_eq]; rfl
  ·rw [cntN_eq, cntN_eq]; show 1 + cntNs (rnK nm ot _ ks 0) = 1 + cntNs ks; rw [cntNs_rn nm ot _ ks 0]
theorem cntNs_rn (nm ot : ByteArray) (bnd : Nat → List ByteArray) : ∀ (ts : List Tm) (i : Nat), cntNs (rnK nm ot bnd ts i) = cntNs ts
 | [], _ => by rw [rnK_nil]
 | t :: ts, i => by
  rw [rnK_cons]
  unfold cntNs
  rw [cntNs_rn nm ot bnd ts (i + 1)]
  split
  ·rfl
  ·rw [cntN_rn nm ot t]
end
mutual
theorem height_rn (nm ot : ByteArray) : ∀ (T : Tm), heightM (rnM nm ot T) = heightM T
 | .mk op n t ks ps => by
  rw [rnM_mk]
  split
  ·rw [height_eq, height_eq]; rfl
  ·rw [height_eq, height_eq]; show heightsM (rnK nm ot _ ks 0) + 1 = heightsM ks + 1; rw [heights_rn nm ot _ ks 0]
theorem heights_rn (nm ot : ByteArray) (bnd : Nat → List ByteArray) : ∀ (ts : List Tm) (i : Nat), heightsM (rnK nm ot bnd ts i) = heightsM ts
 | [], _ => by rw [rnK_nil]
 | t :: ts, i => by
  rw [rnK_cons]
  unfold heightsM
  rw [heights_rn nm ot bnd ts (i + 1)]
  split
  ·rfl
  ·rw [height_rn nm ot t]
end
theorem cntNs_set : ∀ (ks : List Tm) (i : Nat) (t : Tm), cntN t = cntN (ks.getD i default) → cntNs (ks.set i t) = cntNs ks
 | [], _, _, _ => rfl
 | k :: ks, 0, t, h => by
  show cntNs (t :: ks) = cntNs (k :: ks)
  unfold cntNs; rw [h]; rfl
 | k :: ks, i + 1, t, h => by
  show cntNs (k :: ks.set i t) = cntNs (k :: ks)
  unfold cntNs; rw [cntNs_set ks i t (by simpa using h)]
theorem heights_set : ∀ (ks : List Tm) (i : Nat) (t : Tm), heightM t = heightM (ks.getD i default) → heightsM (ks.set i t) = heightsM ks
 | [], _, _, _ => rfl
 | k :: ks, 0, t, h => by
  show heightsM (t :: ks) = heightsM (k :: ks)
  unfold heightsM; rw [h]; rfl
 | k :: ks, i + 1, t, h => by
  show heightsM (k :: ks.set i t) = heightsM (k :: ks)
  unfold heightsM; rw [heights_set ks i t (by simpa using h)]
theorem mem_set' {α : Type} {xs : List α} {i : Nat} {x y : α} (h : y ∈ xs.set i x) : y ∈ xs ∨ (y = x ∧ i < xs.length) := by
 obtain ⟨j, hj, rfl⟩ := List.getElem_of_mem h
 rw [List.length_set] at hj
 rw [List.getElem_set]
 split
 ·rename_i e; subst e; exact .inr ⟨rfl, hj⟩
 ·exact .inl (List.getElem_mem hj)
theorem getD_mem {α : Type} {xs : List α} {i : Nat} {d : α} (h : i < xs.length) : xs.getD i d ∈ xs := by
 rw [List.getD_eq_getElem?_getD, List.getElem?_eq_getElem h]; exact List.getElem_mem h
structure RS (T : Tm) : Prop where
 f : okF T
 l : lensM T
 b : okB T
 c : cntN T ≤ 1000
theorem bound_rb (nm ot : ByteArray) (i : Nat) (T : Tm) (k : Nat) : (boundL (rbM nm ot i T) k).length = (boundL T k).length := by
 cases T with
 | mk op n t ks ps =>
  unfold rbM boundL
  show (if op = 5 ∨ op = 27 ∨ (op = 7 ∧ k = 1) then [if op = 15 then t else ot] else if op = 15 ∧ 0 < k then ((if op = 15 then ps.set (i - 1) (rnP nm ot (ps.getD (i - 1) default)) else ps)[k - 1]?.map namesP).getD [] else []).length = (if op = 5 ∨ op = 27 ∨ (op = 7 ∧ k = 1) then [t] else if op = 15 ∧ 0 < k then (ps[k - 1]?.map namesP).getD [] else []).length
  split
  ·rfl
  ·split
   ·rename_i h
    rw [if_pos h.1, List.getElem?_set]
    split
    ·rename_i e
     split
     ·rename_i hlt
      rw [← e, List.getElem?_eq_getElem hlt, List.getD_eq_getElem?_getD, List.getElem?_eq_getElem hlt]
      simp [names_rnP]
     ·rename_i hlt
      rw [← e, List.getElem?_eq_none (by omega)]
    ·rfl
   ·rfl
theorem RS.rb {T : Tm} (h : RS T) (nm ot : ByteArray) (hot : nameB ot = true) (i : Nat) (hi : i < T.kids.length) : RS (rbM nm ot i T) := by
 have hbd := bound_rb nm ot i T
 obtain ⟨hf, hl, hb, hc⟩ := h
 cases T with
 | mk op n t ks ps =>
  change i < ks.length at hi
  unfold okF at hf
  unfold lensM at hl
  rw [okB_eq] at hb
  have hm : ks.getD i default ∈ ks := getD_mem hi
  refine ⟨?_, ?_, ?_, ?_⟩
  ·unfold rbM okF
   rw [List.length_set]
   refine ⟨fun h => ?_, hf.2.1, fun p hp => ?_, okFs_iff.2 fun t' ht => ?_⟩
   ·rw [if_pos h, List.length_set]; exact hf.1 h
   ·split at hp
    ·rcases mem_set' hp with h | ⟨rfl, h⟩
     ·exact hf.2.2.1 p h
     ·have h1 := hf.2.2.1 _ (getD_mem (d := default) h)
      exact ⟨patsB_rn nm ot hot _ h1.1, by rw [parts_rnP]; exact h1.2⟩
    ·exact hf.2.2.1 p hp
   ·rcases mem_set' ht with h | ⟨rfl, -⟩
    ·exact okFs_iff.1 hf.2.2.2 t' h
    ·exact okF_rn _ _ _ (okFs_iff.1 hf.2.2.2 _ hm)
  ·unfold rbM lensM
   rw [List.length_set]
   refine ⟨hl.1, ?_, lenssP_iff.2 fun p hp => ?_, lenssM_iff.2 fun t' ht => ?_⟩
   ·split
    ·rw [List.length_set]; exact hl.2.1
    ·exact hl.2.1
   ·split at hp
    ·rcases mem_set' hp with h | ⟨rfl, h⟩
     ·exact lenssP_iff.1 hl.2.2.1 p h
     ·exact lensP_rn _ _ _ (lenssP_iff.1 hl.2.2.1 _ (getD_mem (d := default) h))
    ·exact lenssP_iff.1 hl.2.2.1 p hp
   ·rcases mem_set' ht with h | ⟨rfl, -⟩
    ·exact lenssM_iff.1 hl.2.2.2 t' h
    ·exact lensM_rn _ _ _ (lenssM_iff.1 hl.2.2.2 _ hm)
  ·rw [okB_eq]
   refine ⟨?_, fun k => by rw [hbd k]; exact hb.2.1 k, okBs_iff.2 fun t' ht => ?_⟩
   ·show (ks.set i _).length ≤ 6
    rw [List.length_set]; exact hb.1
   ·change t' ∈ ks.set i _ at ht
    rcases mem_set' ht with h | ⟨rfl, -⟩
    ·exact okBs_iff.1 hb.2.2 t' h
    ·exact okB_rn _ _ _ (okBs_iff.1 hb.2.2 _ hm)
  ·rw [cntN_eq] at hc ⊢
   show 1 + cntNs (ks.set i _) ≤ 1000
   rw [cntNs_set _ _ _ (cntN_rn _ _ _)]; exact hc
theorem height_rb (nm ot : ByteArray) (i : Nat) (T : Tm) : heightM (rbM nm ot i T) = heightM T := by
 cases T with
 | mk op n t ks ps =>
  rw [height_eq, height_eq]
  show heightsM (ks.set i _) + 1 = heightsM ks + 1
  rw [heights_set _ _ _ (height_rn _ _ _)]
theorem RS.kid {T : Tm} (h : RS T) (k : Nat) (hk : k < T.kids.length) : RS T.kids[k] := by
 cases T with
 | mk op n t ks ps =>
  obtain ⟨hf, hl, hb, hc⟩ := h
  unfold okF at hf
  unfold lensM at hl
  have hc2 := cntNs_get k hk
  rw [cntN_eq] at hc
  exact ⟨okFs_get hf.2.2.2 k hk, lensM_get hl.2.2.2 k hk, okBs_get ((okB_eq _).1 hb).2.2 k hk, by omega⟩
mutual
theorem partsM_cnt : ∀ (T : Tm) (d : Int), (partsM d T).length = cntN T
 | .mk op n t ks ps, d => by
  unfold partsM cntN
  rw [List.length_cons, partssM_cnt ks (d + 1)]; omega
theorem partssM_cnt : ∀ (ts : List Tm) (d : Int), (partssM d ts).length = cntNs ts
 | [], _ => rfl
 | t :: ts, d => by
  unfold partssM cntNs
  rw [List.length_append, partsM_cnt t d, partssM_cnt ts d]
end
mutual
theorem stP_few : ∀ (T : Tm), okB T → (stP T).length ≤ 73 * cntN T
 | .mk op n t ks ps, h => by
  rw [okB_eq] at h
  have h1 := stK_few (boundL (.mk op n t ks ps)) h.2.1 ks 0 h.2.2
  have h2 : ks.length ≤ 6 := h.1
  rw [stP_mk, List.length_append, cntN_eq]
  have h3 : (if op = 4 then [t] else []).length ≤ 1 := by split <;> simp
  show _ ≤ 73 * (1 + cntNs ks)
  omega
theorem stK_few (bnd : Nat → List ByteArray) (hb : ∀ k, (bnd k).length ≤ 12) : ∀ (ts : List Tm) (i : Nat), okBs ts → (stK bnd ts i).length ≤ 12 * ts.length + 73 * cntNs ts
 | [], _, _ => by rw [stK_nil]; exact Nat.zero_le _
 | t :: ts, i, h => by
  unfold okBs at h
  have h1 := stP_few t h.1
  have h2 := stK_few bnd hb ts (i + 1) h.2
  have h3 := hb i
  rw [stK_cons, List.length_append, List.length_append, List.length_cons]
  unfold cntNs
  omega
end
theorem RS.st {T : Tm} (h : RS T) : (stP T).length ≤ 100000 := by
 have h1 := stP_few T h.b
 have h2 := h.c
 omega
theorem RS.parts {T : Tm} (h : RS T) : (partsM 1 T).length ≤ 100000 := by
 rw [partsM_cnt]
 have h2 := h.c
 omega
end Go.Proofs.YtjpahjfjpkbcnaaGreat
