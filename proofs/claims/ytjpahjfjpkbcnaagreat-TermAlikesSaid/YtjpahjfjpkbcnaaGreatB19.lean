/- Contracts of the program's functions. -/
import Derived.Test.YtjpahjfjpkbcnaaGreatB14
import Derived.Test.YtjpahjfjpkbcnaaGreatB18
import Derived.Test.YtjpahjfjpkbcnaaGreatB16
import Derived.Test.YtjpahjfjpkbcnaaGreatB09
import Derived.Sort.Walk0
import Derived.Test.YtjpahjfjpkbcnaaGreatB12
import Derived.Test.YtjpahjfjpkbcnaaGreatB05

namespace Go.Proofs.YtjpahjfjpkbcnaaGreat
open Go.Proofs Go.RowKit
mutual
def rnS (r : ByteArray → ByteArray) : Tm → Tm
 | .mk op n text kids pats => if op = 4 then .mk op n (r text) kids pats else .mk op n text (rnSK r (boundL (.mk op n text kids pats)) kids 0) pats
def rnSK (r : ByteArray → ByteArray) (bnd : Nat → List ByteArray) : List Tm → Nat → List Tm
 | [], _ => []
 | k :: ks, i => rnS (fun y => if inL (bnd i) y.toList = true then y else r y) k :: rnSK r bnd ks (i + 1)
end
theorem rnS_mk (r : ByteArray → ByteArray) (op n : Int) (text : ByteArray) (kids : List Tm) (pats : List Pt) : rnS r (.mk op n text kids pats) = if op = 4 then .mk op n (r text) kids pats else .mk op n text (rnSK r (boundL (.mk op n text kids pats)) kids 0) pats := by
 conv => lhs; unfold rnS
theorem rnSK_nil (r : ByteArray → ByteArray) (bnd : Nat → List ByteArray) (i : Nat) : rnSK r bnd [] i = [] := by unfold rnSK; rfl
theorem rnSK_cons (r : ByteArray → ByteArray) (bnd : Nat → List ByteArray) (k : Tm) (ks : List Tm) (i : Nat) : rnSK r bnd (k :: ks) i = rnS (fun y => if inL (bnd i) y.toList = true then y else r y) k :: rnSK r bnd ks (i + 1) := by
 conv => lhs; unfold rnSK
theorem rnSK_len (r : ByteArray → ByteArray) (bnd : Nat → List ByteArray) : ∀ (ks : List Tm) (i : Nat), (rnSK r bnd ks i).length = ks.length
 | [], i => by rw [rnSK_nil]
 | k :: ks, i => by rw [rnSK_cons, List.length_cons, List.length_cons, rnSK_len r bnd ks (i + 1)]
mutual
theorem rnS_id (r : ByteArray → ByteArray) (h : ∀ y, r y = y) : ∀ T : Tm, rnS r T = T
 | .mk op n text kids pats => by rw [rnS_mk, h, rnSK_id r h]; split <;> rfl
theorem rnSK_id (r : ByteArray → ByteArray) (h : ∀ y, r y = y) (bnd : Nat → List ByteArray) : ∀ (ks : List Tm) (i : Nat), rnSK r bnd ks i = ks
 | [], i => by rw [rnSK_nil]
 | k :: ks, i => by rw [rnSK_cons, rnSK_id r h bnd ks (i + 1), rnS_id _ (fun y => by split <;> simp [h]) k]
end
mutual
theorem rnS_comp (r1 r2 : ByteArray → ByteArray) : ∀ (T : Tm), (∀ y, r1 y = y ∨ inL (standL T) (r1 y).toList = false) → rnS r2 (rnS r1 T) = rnS (fun y => r2 (r1 y)) T
 | .mk op n text kids pats, h => by
  rw [rnS_mk r1]
  by_cases h4 : op = 4
  ·rw [if_pos h4, rnS_mk, if_pos h4, rnS_mk, if_pos h4]
  ·rw [if_neg h4, rnS_mk, if_neg h4, rnS_mk, if_neg h4]
   have hb : boundL (.mk op n text (rnSK r1 (boundL (.mk op n text kids pats)) kids 0) pats) = boundL (.mk op n text kids pats) := rfl
   rw [hb, rnSK_comp r1 r2 (boundL (.mk op n text kids pats)) kids 0 fun j hj y => ?_]
   rw [Nat.zero_add]
   rcases h y with h' | h'
   ·exact .inl h'
   ·refine .inr ⟨?_, ?_⟩
    ·cases hs : inL (standL kids[j]) (r1 y).toList
     ·rfl
     ·rw [stand_kid (.mk op n text kids pats) j hj _ hs] at h'; cases h'
    ·cases hs : inL (boundL (.mk op n text kids pats) j) (r1 y).toList
     ·rfl
     ·rw [stand_bnd (.mk op n text kids pats) j hj _ hs] at h'; cases h'
theorem rnSK_comp (r1 r2 : ByteArray → ByteArray) (bnd : Nat → List ByteArray) : ∀ (ks : List Tm) (i : Nat), (∀ j (hj : j < ks.length) y, r1 y = y ∨ (inL (standL ks[j]) (r1 y).toList = false ∧ inL (bnd (i + j)) (r1 y).toList = false)) → rnSK r2 bnd (rnSK r1 bnd ks i) i = rnSK (fun y => r2 (r1 y)) bnd ks i
 | [], i, _ => by rw [rnSK_nil, rnSK_nil, rnSK_nil]
 | k :: ks, i, h => by
  have h0 := h 0 (by simp)
  rw [rnSK_cons, rnSK_cons, rnSK_cons, rnSK_comp r1 r2 bnd ks (i + 1) fun j hj y => by
   have := h (j + 1) (by simpa using hj) y
   rw [show i + 1 + j = i + (j + 1) by omega]
   simpa using this]
  rw [rnS_comp _ _ k fun y => by
   by_cases hb : inL (bnd i) y.toList = true
   ·exact .inl (if_pos hb)
   ·simp only [if_neg hb]
    rcases h0 y with h' | h'
    ·exact .inl h'
    ·exact .inr h'.1]
  congr 2
  funext y
  by_cases hb : inL (bnd i) y.toList = true
  ·rw [if_pos hb, if_pos hb, if_pos hb]
  ·rw [if_neg hb, if_neg hb]
   rcases h0 y with h' | h'
   ·rw [h', if_neg hb]
   ·rw [if_neg (by have := h'.2; rw [Nat.add_zero] at this; rw [this]; simp)]
end
def oneN (nm ot : ByteArray) (y : ByteArray) : ByteArray := if (y.toList == nm.toList) = true then ot else y
theorem hasB_inL (ss : List ByteArray) (s : ByteArray) : hasB ss s = inL ss s.toList := rfl
mutual
theorem rnM_S (nm ot : ByteArray) : ∀ T : Tm, rnM nm ot T = rnS (oneN nm ot) T
 | .mk op n text kids pats => by
  rw [rnM_mk, rnS_mk, rnK_S nm ot _ kids 0]
  rfl
theorem rnK_S (nm ot : ByteArray) (bnd : Nat → List ByteArray) : ∀ (ks : List Tm) (i : Nat), rnK nm ot bnd ks i = rnSK (oneN nm ot) bnd ks i
 | [], i => by rw [rnSK_nil]; unfold rnK; rfl
 | k :: ks, i => by
  have e : rnK nm ot bnd (k :: ks) i = (if hasB (bnd i) nm = true then k else rnM nm ot k) :: rnK nm ot bnd ks (i + 1) := by conv => lhs; unfold rnK
  rw [e, rnSK_cons, rnK_S nm ot bnd ks (i + 1), hasB_inL]
  congr 1
  by_cases hb : inL (bnd i) nm.toList = true
  ·rw [if_pos hb, rnS_id]
   intro y
   split
   ·rfl
   ·rename_i hy
    unfold oneN
    rw [if_neg]
    intro e
    rw [show y.toList = nm.toList by simpa using e] at hy
    exact hy hb
  ·rw [if_neg hb, rnM_S nm ot k]
   congr 1
   funext y
   split
   ·rename_i hy
    unfold oneN
    rw [if_neg]
    intro e
    rw [show y.toList = nm.toList by simpa using e] at hy
    exact hb hy
   ·rfl
end
mutual
def rnF (r : ByteArray → ByteArray) : Pt → Pt
 | .mk f n t ps => .mk f n (if f = 2 then r t else t) (rnFs r ps)
def rnFs (r : ByteArray → ByteArray) : List Pt → List Pt
 | [] => []
 | p :: ps => rnF r p :: rnFs r ps
end
theorem rnF_mk (r : ByteArray → ByteArray) (f n : Int) (t : ByteArray) (ps : List Pt) : rnF r (.mk f n t ps) = .mk f n (if f = 2 then r t else t) (rnFs r ps) := by conv => lhs; unfold rnF
theorem rnFs_nil (r : ByteArray → ByteArray) : rnFs r [] = [] := by unfold rnFs; rfl
theorem rnFs_cons (r : ByteArray → ByteArray) (p : Pt) (ps : List Pt) : rnFs r (p :: ps) = rnF r p :: rnFs r ps := by conv => lhs; unfold rnFs
mutual
theorem rnF_comp (r1 r2 : ByteArray → ByteArray) : ∀ p : Pt, rnF r2 (rnF r1 p) = rnF (fun y => r2 (r1 y)) p
 | .mk f n t ps => by
  rw [rnF_mk, rnF_mk, rnF_mk, rnFs_comp r1 r2 ps]
  split <;> rfl
theorem rnFs_comp (r1 r2 : ByteArray → ByteArray) : ∀ ps : List Pt, rnFs r2 (rnFs r1 ps) = rnFs (fun y => r2 (r1 y)) ps
 | [] => by rw [rnFs_nil, rnFs_nil, rnFs_nil]
 | p :: ps => by rw [rnFs_cons, rnFs_cons, rnFs_cons, rnF_comp r1 r2 p, rnFs_comp r1 r2 ps]
end
mutual
theorem rnP_F (nm ot : ByteArray) : ∀ p : Pt, rnP nm ot p = rnF (oneN nm ot) p
 | .mk f n t ps => by
  have e : rnP nm ot (.mk f n t ps) = .mk f n (if f = 2 ∧ (t.toList == nm.toList) = true then ot else t) (rnPs nm ot ps) := by conv => lhs; unfold rnP
  rw [e, rnF_mk, rnPs_F nm ot ps]
  unfold oneN
  by_cases h : f = 2 <;> simp [h]
theorem rnPs_F (nm ot : ByteArray) : ∀ ps : List Pt, rnPs nm ot ps = rnFs (oneN nm ot) ps
 | [] => by rw [rnFs_nil]; unfold rnPs; rfl
 | p :: ps => by
  have e : rnPs nm ot (p :: ps) = rnP nm ot p :: rnPs nm ot ps := by conv => lhs; unfold rnPs
  rw [e, rnFs_cons, rnP_F nm ot p, rnPs_F nm ot ps]
end
def fS (sc : Sc) (y : ByteArray) : ByteArray := (findS sc y).getD y
mutual
theorem renP_F (sc : Sc) : ∀ p : Pt, renP sc p = rnF (fS sc) p
 | .mk f n t ps => by rw [renP_mk, rnF_mk, renPs_F sc ps]; rfl
theorem renPs_F (sc : Sc) : ∀ ps : List Pt, renPs sc ps = rnFs (fS sc) ps
 | [] => by rw [rnFs_nil]; unfold renPs; rfl
 | p :: ps => by
  have e : renPs sc (p :: ps) = renP sc p :: renPs sc ps := by conv => lhs; unfold renPs
  rw [e, rnFs_cons, renP_F sc p, renPs_F sc ps]
end
mutual
theorem rnF_keep (r : ByteArray → ByteArray) : ∀ (p : Pt) (d : Int), (∀ y ∈ namesL ((partsP d p).map (·.2)), r y = y) → rnF r p = p
 | .mk f n t ps, d, h => by
  rw [rnF_mk]
  rw [partsP_mk, List.map_cons] at h
  rw [rnFs_keep r ps (d + 1) fun y hy => h y (by
   unfold namesL at hy ⊢
   rw [List.filter_cons]
   split
   ·exact List.mem_cons_of_mem _ hy
   ·exact hy)]
  by_cases h2 : f = 2
  ·rw [if_pos h2, h t (by
    unfold namesL
    rw [List.filter_cons_of_pos (by exact decide_eq_true h2)]
    exact List.mem_cons_self)]
  ·rw [if_neg h2]
theorem rnFs_keep (r : ByteArray → ByteArray) : ∀ (ps : List Pt) (d : Int), (∀ y ∈ namesL ((partssP d ps).map (·.2)), r y = y) → rnFs r ps = ps
 | [], _, _ => by rw [rnFs_nil]
 | p :: ps, d, h => by
  have e : partssP d (p :: ps) = partsP d p ++ partssP d ps := by conv => lhs; unfold partssP
  have e2 : namesL ((partssP d (p :: ps)).map (·.2)) = namesL ((partsP d p).map (·.2)) ++ namesL ((partssP d ps).map (·.2)) := by
   rw [e]; unfold namesL; rw [List.map_append, List.filter_append, List.map_append]
  rw [e2] at h
  rw [rnFs_cons, rnF_keep r p d fun y hy => h y (List.mem_append_left _ hy), rnFs_keep r ps d fun y hy => h y (List.mem_append_right _ hy)]
end
theorem fS_list (sc : Sc) (y : ByteArray) : (fS sc y).toList = rnL sc y.toList := (rnL_find sc y).symm
theorem fS_skip (bs os : List ByteArray) (sc : Sc) (y : ByteArray) (hl : os.length = bs.length) (h : inL bs y.toList = false) : fS (pushS bs os sc) y = fS sc y :=
 bytes_ext (by rw [fS_list, fS_list, rnL_skip bs os sc _ hl h])
theorem fS_nil (y : ByteArray) : fS [] y = y := rfl
theorem fS_cons (x s : ByteArray) (sc : Sc) (y : ByteArray) : fS ((x, s) :: sc) y = if (x.toList == y.toList) = true then s else fS sc y := by
 unfold fS
 conv => lhs; unfold findS
 split <;> rfl
def okR1 (T : Tm) : Prop := (T.op = 4 → T.kids = []) ∧ (T.op ≠ 15 → T.pats = []) ∧ shapeT T ∧ ∀ p ∈ T.pats, ((namesP p).map (·.toList)).Nodup
abbrev okR (T : Tm) : Prop := ∀ x ∈ partsM 1 T, okR1 x.2
theorem okR_of {T : Tm} (h : termB T = true) : okR T := fun x hx => by
 obtain ⟨d, T'⟩ := x
 have hf : T'.fits = true := goM_all _ 0 h (d, T') hx
 cases T' with
 | mk op n text kids pats => exact ⟨(fits_okN hf).2.1, pats_of_fits hf, (fits_shape hf).2, fun p hp => ((patB_iff p).1 ((fits_pats hf).2 p hp)).2.2⟩
theorem okR.top {T : Tm} (h : okR T) : okR1 T := h (1, T) (by rw [partsM_eq]; exact List.mem_cons_self)
theorem partsM_up (T : Tm) (x : Int × Tm) (h : x ∈ partsM 1 T) : (x.1 + 1, x.2) ∈ partsM 2 T := by
 have e : partsM 2 T = (partsM 1 T).map fun x => (x.1 + 1, x.2) := partsM_shf T 1 1
 rw [e]
 exact List.mem_map_of_mem (f := fun x : Int × Tm => (x.1 + 1, x.2)) h
theorem okR.kid {T : Tm} (h : okR T) (j : Nat) (hj : j < T.kids.length) : okR T.kids[j] := fun x hx =>
 h (x.1 + 1, x.2) (by rw [partsM_eq]; exact List.mem_cons_of_mem _ ((partss_has T.kids 2 j hj).1 _ (partsM_up _ _ hx)))
def stT (T : Tm) (sc : Nat → Sc) : Tm := .mk T.op T.n (if T.op = 5 ∨ T.op = 27 then fS (sc 0) T.text else if T.op = 7 then fS (sc 1) T.text else T.text)
 ((List.range T.kids.length).map fun i => rnS (fS (sc i)) (T.kids.getD i default)) (if T.op = 15 then (List.range T.pats.length).map fun i => rnF (fS (sc (i + 1))) (T.pats.getD i default) else T.pats)
def updS (sc : Nat → Sc) (i : Nat) (s : Sc) : Nat → Sc := fun j => if j = i then s else sc j
theorem range_getD {α : Type} [Inhabited α] (xs : List α) : (List.range xs.length).map (fun i => xs.getD i default) = xs := by
 refine List.ext_getElem (by simp) fun i h1 h2 => ?_
 rw [List.getElem_map, List.getElem_range, List.getD_eq_getElem?_getD, List.getElem?_eq_getElem h2]
 rfl
theorem stT_nil (T : Tm) : stT T (fun _ => []) = T := by
 unfold stT
 have h1 : (fun i => rnS (fS []) (T.kids.getD i default)) = fun i => T.kids.getD i default := by funext i; exact rnS_id _ fS_nil _
 have h2 : (fun i => rnF (fS []) (T.pats.getD i default)) = fun i => T.pats.getD i default := by funext i; exact rnF_keep _ _ 1 fun y _ => rfl
 rw [h1, h2, range_getD, range_getD]
 have h3 : (if T.op = 5 ∨ T.op = 27 then fS [] T.text else if T.op = 7 then fS [] T.text else T.text) = T.text := by
  split
  ·rfl
  ·split <;> rfl
 have h4 : (if T.op = 15 then T.pats else T.pats) = T.pats := by split <;> rfl
 rw [h3, h4]
 cases T
 rfl
theorem boundT (T : Tm) (sc : Nat → Sc) (h : shapeT T) (i : Nat) (hi : i < T.kids.length) (hs : sc i = []) : boundL (stT T sc) i = boundL T i := by
 obtain ⟨s5, s7, s15⟩ := h
 unfold boundL
 show (if T.op = 5 ∨ T.op = 27 ∨ (T.op = 7 ∧ i = 1) then [if T.op = 5 ∨ T.op = 27 then fS (sc 0) T.text else if T.op = 7 then fS (sc 1) T.text else T.text] else if T.op = 15 ∧ 0 < i then ((if T.op = 15 then (List.range T.pats.length).map fun i => rnF (fS (sc (i + 1))) (T.pats.getD i default) else T.pats)[i - 1]?.map namesP).getD [] else []) = _
 by_cases h1 : T.op = 5 ∨ T.op = 27 ∨ (T.op = 7 ∧ i = 1)
 ·rw [if_pos h1, if_pos h1]
  by_cases h5 : T.op = 5 ∨ T.op = 27
  ·have := s5 h5
   obtain rfl : i = 0 := by omega
   rw [if_pos h5, hs, fS_nil]
  ·rw [if_neg h5, if_pos (by omega)]
   obtain rfl : i = 1 := by omega
   rw [hs, fS_nil]
 ·rw [if_neg h1, if_neg h1]
  by_cases h15 : T.op = 15 ∧ 0 < i
  ·rw [if_pos h15, if_pos h15, if_pos h15.1, List.getElem?_map]
   by_cases hl : i - 1 < T.pats.length
   ·rw [List.getElem?_range hl]
    show (some (namesP (rnF (fS (sc (i - 1 + 1))) (T.pats.getD (i - 1) default)))).getD [] = _
    rw [show i - 1 + 1 = i by omega, hs, rnF_keep (fS []) _ 1 (fun y _ => rfl), List.getD_eq_getElem?_getD, List.getElem?_eq_getElem hl]
    rfl
   ·rw [List.getElem?_eq_none (by simpa using hl), List.getElem?_eq_none (by omega)]
    rfl
  ·rw [if_neg h15, if_neg h15]
theorem rb_st (T : Tm) (sc : Nat → Sc) (hR : okR1 T) (i : Nat) (hi : i < T.kids.length) (x s : ByteArray) (hx : x ∈ boundL T i)
  (h1 : ∀ y, oneN x s (fS (sc i) y) = fS ((x, s) :: sc i) y) (h2 : ∀ y, fS (sc i) y = y ∨ inL (standL T.kids[i]) (fS (sc i) y).toList = false) :
  rbM x s i (stT T sc) = stT T (updS sc i ((x, s) :: sc i)) := by
 obtain ⟨-, -, ⟨s5, s7, s15⟩, -⟩ := hR
 have hfun : (fun y => oneN x s (fS (sc i) y)) = fS ((x, s) :: sc i) := funext h1
 have hxs : fS ((x, s) :: sc i) x = s := by rw [fS_cons, if_pos (by simp)]
 have hk : (((List.range T.kids.length).map fun i => rnS (fS (sc i)) (T.kids.getD i default)).set i (rnM x s (((List.range T.kids.length).map fun i => rnS (fS (sc i)) (T.kids.getD i default)).getD i default))) = (List.range T.kids.length).map fun j => rnS (fS (updS sc i ((x, s) :: sc i) j)) (T.kids.getD j default) := by
  refine List.ext_getElem (by simp) fun j h5 h6 => ?_
  have hj : j < T.kids.length := by simpa using h6
  rw [List.getElem_set, List.getElem_map, List.getElem_range, List.getElem_map, List.getElem_range]
  unfold updS
  by_cases e : i = j
  ·subst e
   rw [if_pos rfl, if_pos rfl, List.getD_eq_getElem?_getD, List.getElem?_map, List.getElem?_range hi]
   show rnM x s (rnS (fS (sc i)) (T.kids.getD i default)) = _
   have hg : T.kids.getD i default = T.kids[i] := by rw [List.getD_eq_getElem?_getD, List.getElem?_eq_getElem hi]; rfl
   rw [rnM_S, hg, rnS_comp _ _ _ h2, hfun]
  ·rw [if_neg e, if_neg (fun h => e h.symm)]
 show Tm.mk T.op T.n (if T.op = 15 then (if T.op = 5 ∨ T.op = 27 then fS (sc 0) T.text else if T.op = 7 then fS (sc 1) T.text else T.text) else s) (((List.range T.kids.length).map fun i => rnS (fS (sc i)) (T.kids.getD i default)).set i (rnM x s (((List.range T.kids.length).map fun i => rnS (fS (sc i)) (T.kids.getD i default)).getD i default)))
  (if T.op = 15 then (if T.op = 15 then (List.range T.pats.length).map fun i => rnF (fS (sc (i + 1))) (T.pats.getD i default) else T.pats).set (i - 1) (rnP x s ((if T.op = 15 then (List.range T.pats.length).map fun i => rnF (fS (sc (i + 1))) (T.pats.getD i default) else T.pats).getD (i - 1) default)) else (if T.op = 15 then (List.range T.pats.length).map fun i => rnF (fS (sc (i + 1))) (T.pats.getD i default) else T.pats)) = _
 rw [hk]
 unfold stT
 by_cases h15 : T.op = 15
 ·have hb : boundL T i = if 0 < i then (T.pats[i - 1]?.map namesP).getD [] else [] := by
   unfold boundL
   rw [if_neg (by omega)]
   by_cases h0 : 0 < i
   ·rw [if_pos ⟨h15, h0⟩, if_pos h0]
   ·rw [if_neg (fun h => h0 h.2), if_neg h0]
  have h0 : 0 < i := by
   rw [hb] at hx
   by_cases h0 : 0 < i
   ·exact h0
   ·rw [if_neg h0] at hx; cases hx
  have hl : i - 1 < T.pats.length := by
   rw [hb, if_pos h0] at hx
   by_cases hl : i - 1 < T.pats.length
   ·exact hl
   ·rw [List.getElem?_eq_none (by omega)] at hx; cases hx
  simp only [if_pos h15]
  rw [if_neg (by omega), if_neg (by omega), if_neg (by omega), if_neg (by omega)]
  congr 1
  refine List.ext_getElem (by simp) fun j h5 h6 => ?_
  have hj : j < T.pats.length := by simpa using h6
  rw [List.getElem_set, List.getElem_map, List.getElem_range, List.getElem_map, List.getElem_range]
  unfold updS
  by_cases e : i - 1 = j
  ·subst e
   rw [if_pos rfl, if_pos (by omega), List.getD_eq_getElem?_getD, List.getElem?_map, List.getElem?_range hl]
   show rnP x s (rnF (fS (sc (i - 1 + 1))) (T.pats.getD (i - 1) default)) = _
   rw [rnP_F, show i - 1 + 1 = i by omega, rnF_comp, hfun]
  ·rw [if_neg e, if_neg (by omega)]
 ·simp only [if_neg h15]
  congr 1
  by_cases h5 : T.op = 5 ∨ T.op = 27
  ·have hb : boundL T i = [T.text] := by unfold boundL; rw [if_pos (by omega)]
   rw [hb, List.mem_singleton] at hx
   have := s5 h5
   obtain rfl : i = 0 := by omega
   rw [if_pos h5]
   unfold updS
   rw [if_pos rfl, ← hx, hxs]
  ·by_cases h7 : T.op = 7
   ·by_cases hi1 : i = 1
    ·subst hi1
     have hb : boundL T 1 = [T.text] := by unfold boundL; rw [if_pos (by omega)]
     rw [hb, List.mem_singleton] at hx
     rw [if_neg h5, if_pos h7]
     unfold updS
     rw [if_pos rfl, ← hx, hxs]
    ·have hb : boundL T i = [] := by unfold boundL; rw [if_neg (by omega), if_neg (by omega)]
     rw [hb] at hx; cases hx
   ·have hb : boundL T i = [] := by unfold boundL; rw [if_neg (by omega), if_neg (by omega)]
    rw [hb] at hx; cases hx
theorem ltB_eq (a b : ByteArray) : ltB a b = decide (a.toList < b.toList) := Go.Proofs.bytesLess_eq _ _
abbrev SortedL (l : List ByteArray) : Prop := l.Pairwise fun a b => a.toList < b.toList
theorem list_lt_of {a b : List UInt8} (h : ¬ a < b) (h2 : a ≠ b) : b < a := by
 by_cases h3 : b < a
 ·exact h3
 ·exact absurd (List.le_antisymm (List.not_lt.1 h3) (List.not_lt.1 h)) h2
theorem mem_putL (s : ByteArray) (x : List UInt8) : ∀ l : List ByteArray, (∃ y ∈ putL s l, y.toList = x) ↔ x = s.toList ∨ ∃ y ∈ l, y.toList = x
 | [] => by simp [putL, eq_comm]
 | z :: l => by
  have ih := mem_putL s x l
  unfold putL
  split
  ·simp only [List.mem_cons, exists_eq_or_imp, ih]
   constructor
   ·rintro (h | h | h)
    ·exact .inr (.inl h)
    ·exact .inl h
    ·exact .inr (.inr h)
   ·rintro (h | h | h)
    ·exact .inr (.inl h)
    ·exact .inl h
    ·exact .inr (.inr h)
  ·split
   ·rename_i h
    have he := eq_of_beq h
    simp only [List.mem_cons, exists_eq_or_imp]
    constructor
    ·exact .inr
    ·rintro (h | h)
     ·exact .inl (by rw [he, h])
     ·exact h
   ·simp only [List.mem_cons, exists_eq_or_imp]
    constructor
    ·rintro (h | h)
     ·exact .inl h.symm
     ·exact .inr h
    ·rintro (h | h)
     ·exact .inl h.symm
     ·exact .inr h
theorem putL_sorted (s : ByteArray) : ∀ l : List ByteArray, SortedL l → SortedL (putL s l)
 | [], _ => by unfold putL; exact List.pairwise_singleton _ _
 | z :: l, h => by
  obtain ⟨h1, h2⟩ := List.pairwise_cons.1 h
  unfold putL
  split
  ·rename_i hz
   rw [ltB_eq] at hz
   refine List.pairwise_cons.2 ⟨fun y hy => ?_, putL_sorted s l h2⟩
   rcases (mem_putL s y.toList l).1 ⟨y, hy, rfl⟩ with h | ⟨y', hy', he⟩
   ·rw [h]; exact of_decide_eq_true hz
   ·rw [← he]; exact h1 y' hy'
  ·rename_i hz
   rw [ltB_eq] at hz
   split
   ·exact h
   ·rename_i hne
    have hlt : s.toList < z.toList := list_lt_of (by simpa using hz) (by simpa using hne)
    refine List.pairwise_cons.2 ⟨fun y hy => ?_, h⟩
    rcases List.mem_cons.1 hy with rfl | hy
    ·exact hlt
    ·exact List.lt_trans hlt (h1 y hy)
theorem mem_addL (b : List ByteArray) (x : List UInt8) : ∀ (xs out : List ByteArray), (∃ y ∈ addL b xs out, y.toList = x) ↔ (∃ y ∈ out, y.toList = x) ∨ ((∃ y ∈ xs, y.toList = x) ∧ inL b x = false)
 | [], out => by simp [addL]
 | z :: xs, out => by
  unfold addL
  rw [mem_addL b x xs]
  have hb : hasB b z = inL b z.toList := rfl
  cases hz : hasB b z with
  | true =>
   simp only [if_true, List.mem_cons, exists_eq_or_imp]
   constructor
   ·rintro (h | ⟨h1, h2⟩)
    ·exact .inl h
    ·exact .inr ⟨.inr h1, h2⟩
   ·rintro (h | ⟨h1 | h1, h2⟩)
    ·exact .inl h
    ·rw [hb, h1, h2] at hz; cases hz
    ·exact .inr ⟨h1, h2⟩
  | false =>
   rw [if_neg (by simp), mem_putL]
   simp only [List.mem_cons, exists_eq_or_imp]
   rw [hb] at hz
   constructor
   ·rintro ((h | h) | ⟨h1, h2⟩)
    ·exact .inr ⟨.inl h.symm, by rw [h]; exact hz⟩
    ·exact .inl h
    ·exact .inr ⟨.inr h1, h2⟩
   ·rintro (h | ⟨h1 | h1, h2⟩)
    ·exact .inl (.inr h)
    ·exact .inl (.inl h1.symm)
    ·exact .inr ⟨h1, h2⟩
theorem addL_sorted (b : List ByteArray) : ∀ (xs out : List ByteArray), SortedL out → SortedL (addL b xs out)
 | [], _, h => h
 | z :: xs, out, h => by
  unfold addL
  refine addL_sorted b xs _ ?_
  split
  ·exact h
  ·exact putL_sorted z out h
theorem rfreeK_sorted (bnd : Nat → List ByteArray) : ∀ (ks : List Tm) (i : Nat) (out : List ByteArray), SortedL out → SortedL (rfreeK bnd ks i out)
 | [], _, _, h => h
 | k :: ks, i, out, h => by
  unfold rfreeK
  exact rfreeK_sorted bnd ks (i + 1) _ (addL_sorted _ _ _ h)
theorem rfree_sorted (T : Tm) : SortedL (rfree T) := by
 cases T with
 | mk op n t ks ps =>
  unfold rfree
  split
  ·exact List.pairwise_singleton _ _
  ·exact rfreeK_sorted _ ks 0 [] List.Pairwise.nil
mutual
theorem mem_frees : ∀ (T : Tm) (bd : List UInt8 → Bool) (x : List UInt8), x ∈ frees bd T ↔ x ∈ frees (fun _ => false) T ∧ bd x = false
 | .mk op n t ks ps, bd, x => by
  unfold frees
  rw [List.mem_append, List.mem_append, mem_freesB _ ks bd 0 x]
  constructor
  ·rintro (h | h)
   ·split at h
    ·rename_i h4
     have hx : x = t.toList := by simpa using h
     exact ⟨.inl (by rw [if_pos ⟨h4.1, rfl⟩]; exact h), by rw [hx]; exact h4.2⟩
    ·cases h
   ·exact ⟨.inr h.1, h.2⟩
  ·rintro ⟨h | h, hb⟩
   ·split at h
    ·rename_i h4
     have hx : x = t.toList := by simpa using h
     exact .inl (by rw [if_pos ⟨h4.1, by rw [← hx]; exact hb⟩]; exact h)
    ·cases h
   ·exact .inr ⟨h, hb⟩
theorem mem_freesB (bnd : Nat → List ByteArray) : ∀ (ks : List Tm) (bd : List UInt8 → Bool) (i : Nat) (x : List UInt8), x ∈ freesK bd bnd ks i ↔ x ∈ freesK (fun _ => false) bnd ks i ∧ bd x = false
 | [], _, _, _ => by unfold freesK; simp
 | k :: ks, bd, i, x => by
  unfold freesK
  rw [List.mem_append, List.mem_append, mem_frees k (fun x => bd x || (bnd i).any fun s => s.toList == x) x, mem_frees k (fun x => false || (bnd i).any fun s => s.toList == x) x, mem_freesB bnd ks bd (i + 1) x]
  simp only [Bool.or_eq_false_iff, Bool.false_or]
  constructor
  ·rintro (⟨h1, h2, h3⟩ | ⟨h1, h2⟩)
   ·exact ⟨.inl ⟨h1, h3⟩, h2⟩
   ·exact ⟨.inr h1, h2⟩
  ·rintro ⟨⟨h1, h3⟩ | h1, h2⟩
   ·exact .inl ⟨h1, h2, h3⟩
   ·exact .inr ⟨h1, h2⟩
end
mutual
theorem mem_rfree : ∀ (T : Tm) (x : List UInt8), okN T → ((∃ y ∈ rfree T, y.toList = x) ↔ x ∈ frees (fun _ => false) T)
 | .mk op n t ks ps, x, hok => by
  unfold okN at hok
  unfold rfree frees
  by_cases h4 : op = 4
  ·rw [if_pos h4, if_pos ⟨h4, rfl⟩]
   have hk := hok.2.1 h4
   subst hk
   unfold freesK
   simp [eq_comm]
  ·rw [if_neg h4, if_neg (fun h => h4 h.1), mem_rfreeK _ ks 0 [] x hok.2.2.2.2.2]
   simp
theorem mem_rfreeK (bnd : Nat → List ByteArray) : ∀ (ks : List Tm) (i : Nat) (out : List ByteArray) (x : List UInt8), okNs ks → ((∃ y ∈ rfreeK bnd ks i out, y.toList = x) ↔ (∃ y ∈ out, y.toList = x) ∨ x ∈ freesK (fun _ => false) bnd ks i)
 | [], _, _, _, _ => by unfold rfreeK freesK; simp
 | k :: ks, i, out, x, hok => by
  unfold okNs at hok
  unfold rfreeK freesK
  rw [mem_rfreeK bnd ks (i + 1) _ x hok.2, mem_addL, mem_rfree k x hok.1, List.mem_append, mem_frees k (fun x => false || (bnd i).any fun s => s.toList == x) x]
  simp only [Bool.false_or]
  constructor
  ·rintro ((h | ⟨h1, h2⟩) | h)
   ·exact .inl h
   ·exact .inr (.inl ⟨h1, h2⟩)
   ·exact .inr (.inr h)
  ·rintro (h | ⟨h1, h2⟩ | h)
   ·exact .inl (.inl h)
   ·exact .inl (.inr ⟨h1, h2⟩)
   ·exact .inr h
end
theorem bytesArr_toList (s : ByteArray) : bytesArr s.toList = s := by
 apply ByteArray.ext
 rw [ByteArray.toList_eq]
 simp [bytesArr]
theorem sortedL_nodup {l : List ByteArray} (h : SortedL l) : (l.map ByteArray.toList).Nodup := by
 unfold List.Nodup
 rw [List.pairwise_map]
 exact h.imp fun {a b} h he => by rw [he] at h; exact List.lt_irrefl _ h
theorem rfree_eq {T : Tm} (hok : okN T) : rfree T = freeL T := by
 have hs := rfree_sorted T
 have hp : (dd (frees (fun _ => false) T)).Perm ((rfree T).map ByteArray.toList) := by
  refine (List.perm_ext_iff_of_nodup (nodup_dd _) (sortedL_nodup hs)).2 fun x => ?_
  rw [mem_dd, ← mem_rfree T x hok, List.mem_map]
 have h := freeL_perm hp (by
  rw [List.pairwise_map]
  exact hs.imp fun {a b} h => by simpa [leB] using List.le_of_lt h)
 rw [h, List.map_map]
 have e : bytesArr ∘ ByteArray.toList = id := funext bytesArr_toList
 rw [e, List.map_id]
mutual
theorem okF_of : ∀ (T : Tm) (d : Int), okM T → ((partsM d T).map (·.2)).all Tm.fits = true → okF T
 | .mk op n t ks ps, d, hm, h => by
  unfold partsM at h
  rw [List.map_cons, List.all_cons, Bool.and_eq_true] at h
  unfold okM at hm
  obtain ⟨h1, h2⟩ := h
  have hk := fits_okN h1
  unfold okF
  rw [show ((d, Tm.mk op n t ks ps).2) = Tm.mk op n t ks ps from rfl, fits_node, Bool.and_eq_true] at h1
  refine ⟨?_, ?_, fun p hp => ?_, okFs_of ks (d + 1) hm.2.2 h2⟩
  ·exact hk.1
  ·exact hk.2.2.1
  ·have hpb := List.all_eq_true.1 h1.2 p hp
   have hl := patB_len hpb
   rw [← refPatB_eq] at hpb
   unfold refPatB at hpb
   simp only [Bool.and_eq_true] at hpb
   exact ⟨hpb.1.2, by omega⟩
theorem okFs_of : ∀ (ts : List Tm) (d : Int), oksM ts → ((partssM d ts).map (·.2)).all Tm.fits = true → okFs ts
 | [], _, _, _ => by unfold okFs; trivial
 | t :: ts, d, hm, h => by
  unfold partssM at h
  rw [List.map_append, List.all_append, Bool.and_eq_true] at h
  unfold oksM at hm
  unfold okFs
  exact ⟨okF_of t d hm.1 h.1, okFs_of ts d hm.2 h.2⟩
end
theorem fS_out (bs os : List ByteArray) (y : ByteArray) (hl : os.length = bs.length) (h : inL bs y.toList = true) : ∃ p ∈ bs.zip os, p.1 = y ∧ fS (pushS bs os []) y = p.2 := by
 obtain ⟨p, h1, h2, h3⟩ := rnL_out bs os [] _ hl h
 exact ⟨p, h1, bytes_ext h2, bytes_ext (by rw [fS_list]; exact h3)⟩
theorem fS_none (bs os : List ByteArray) (y : ByteArray) (hl : os.length = bs.length) (h : inL bs y.toList = false) : fS (pushS bs os []) y = y := by
 rw [fS_skip bs os [] y hl h]; rfl
theorem updS_same (sc : Nat → Sc) (i : Nat) (s s' : Sc) : updS (updS sc i s) i s' = updS sc i s' := by
 funext j; unfold updS; split <;> rfl
theorem updS_at (sc : Nat → Sc) (i : Nat) (s : Sc) : updS sc i s i = s := by unfold updS; rw [if_pos rfl]
theorem inL_snoc' (tk : List ByteArray) (s : ByteArray) : inL (tk ++ [s]) = fun k => inL tk k || k == s.toList := by
 funext k; rw [inL_append]; unfold inL; simp [BEq.comm]
section
variable {fr : List ByteArray} {FV : List UInt8 → Bool} {T : Tm}
theorem bound_nd (hR : okR1 T) (i : Nat) : ((boundL T i).map (·.toList)).Nodup := by
 unfold boundL
 split
 ·simp
 ·split
  ·cases hq : T.pats[i - 1]? with
   | none => exact List.nodup_nil
   | some p => exact hR.2.2.2 p (List.mem_of_getElem? hq)
  ·exact List.nodup_nil
end
theorem bndL_inv (T : Tm) (x : List UInt8) : ∀ (n : Nat), inL (bndL T n) x = true → ∃ i, i < n ∧ inL (boundL T i) x = true
 | 0, h => by unfold bndL at h; simp [inL] at h
 | n + 1, h => by
  unfold bndL at h
  rw [inL_append, Bool.or_eq_true] at h
  rcases h with h | h
  ·obtain ⟨i, hi, h'⟩ := bndL_inv T x n h
   exact ⟨i, by omega, h'⟩
  ·exact ⟨n, by omega, h⟩
theorem stand_inv (T : Tm) (x : List UInt8) (h : inL (standL T) x = true) : (T.op = 4 ∧ T.text.toList = x) ∨ ∃ i, ∃ h : i < T.kids.length, inL (boundL T i) x = true ∨ inL (standL T.kids[i]) x = true := by
 obtain ⟨t, ht, hx⟩ := inL_standLs' x _ h
 obtain ⟨y, hy, rfl⟩ := List.mem_map.1 ht
 rw [partsM_eq] at hy
 rcases List.mem_cons.1 hy with rfl | hy
 ·unfold standN at hx
  rw [inL_append, Bool.or_eq_true] at hx
  rcases hx with hx | hx
  ·change inL (if T.op = 4 then [T.text] else []) x = true at hx
   by_cases h4 : T.op = 4
   ·rw [if_pos h4] at hx
    exact .inl ⟨h4, by simpa [inL] using hx⟩
   ·rw [if_neg h4] at hx
    simp [inL] at hx
  ·obtain ⟨i, hi, h'⟩ := bndL_inv T x _ hx
   exact .inr ⟨i, hi, .inl h'⟩
 ·have hl : ∀ (ts : List Tm) (d : Int) (x : Int × Tm), x ∈ partssM d ts → ∃ j, ∃ h : j < ts.length, x ∈ partsM d ts[j] := by
   intro ts
   induction ts with
   | nil => intro d x h; unfold partssM at h; cases h
   | cons t ts ih2 =>
    intro d x h
    rw [partssM_cons] at h
    rcases List.mem_append.1 h with h | h
    ·exact ⟨0, by simp, h⟩
    ·obtain ⟨j, hj, h⟩ := ih2 d x h
     exact ⟨j + 1, by simpa using hj, by simpa using h⟩
  obtain ⟨j, hj, hyj⟩ := hl _ _ _ hy
  refine .inr ⟨j, hj, .inr ?_⟩
  have e : partsM (1 + 1) T.kids[j] = (partsM 1 T.kids[j]).map fun x => (x.1 + 1, x.2) := partsM_shf T.kids[j] 1 1
  rw [e] at hyj
  obtain ⟨z, hz, rfl⟩ := List.mem_map.1 hyj
  exact inL_standLs x _ z.2 (List.mem_map_of_mem (f := fun x : Int × Tm => x.2) hz) hx
end Go.Proofs.YtjpahjfjpkbcnaaGreat
namespace Go.Proofs.YtjpahjfjpkbcnaaGreat
open Go.Proofs Go.RowKit
def zeroM : Tm := .mk 0 0 ⟨#[]⟩ [] []
theorem zeroM_at (n₀ : Nat) (w : World) : TmAt n₀ w zeroM (.agg #[.int .i64 0, .int .i64 0, .string ⟨#[]⟩, .slice none 0 0, .slice none 0 0]) := by
 unfold zeroM TmAt
 exact ⟨_, _, rfl, Nat.zero_le _, .inl ⟨rfl, none, 0, rfl, Nat.zero_le _⟩, .inl ⟨rfl, none, 0, rfl, Nat.zero_le _⟩⟩
set_option maxHeartbeats 1000000 in
theorem none_any (p : Tm) (v : Value) (w : World) (hv : TmAt w.heap.size w p v) :
  Calls Tryz.prog 41 #[v] w fun e w' => e = .returned (.bool (eqM p zeroM)) ∧ Below w.heap.size w w' := by
 obtain ⟨a, cap, a', cap', rfl, -⟩ := hv.parts
 have hb0 := (Below.refl w.heap.size w).alloc (Nat.le_refl _) (.cells #[.int .i64 p.op, .int .i64 p.n, .string p.text, .slice a p.kids.length cap, .slice a' p.pats.length cap'] 32)
 have hbx := heap_alloc_new w (.cells #[.int .i64 p.op, .int .i64 p.n, .string p.text, .slice a p.kids.length cap, .slice a' p.pats.length cap'] 32)
 have HC := lh (Same_any p zeroM _ _ _ (TmAt.keep hb0 hb0.size _ _ hv) (zeroM_at _ _))
 have HB := lh hb0
 obtain ⟨c0, c1, c2, c3, c4⟩ := cells5 hbx
 clear hv hb0 hbx
 go_enter Tryz.func41, Tryz.ntmps41
 go_wp2_with fail
 refine HC.o.mono ?_
 rintro e w1 ⟨rfl, hb1⟩
 go_wp2
 go_ret
 exact ⟨rfl, HB.o.trans (hb1.mono HB.o.size)⟩
end Go.Proofs.YtjpahjfjpkbcnaaGreat
