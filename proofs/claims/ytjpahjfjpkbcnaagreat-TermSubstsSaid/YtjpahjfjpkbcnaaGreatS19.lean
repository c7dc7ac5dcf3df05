/- Contracts of the program's functions. -/
import Derived.Test.YtjpahjfjpkbcnaaGreatS14
import Derived.Test.YtjpahjfjpkbcnaaGreatS18
import Derived.Test.YtjpahjfjpkbcnaaGreatS16
import Derived.Test.YtjpahjfjpkbcnaaGreatS09
import Derived.Sort.Walk0
import Derived.Test.YtjpahjfjpkbcnaaGreatS12
import Derived.Test.YtjpahjfjpkbcnaaGreatS05

namespace Go.Proofs.YtjpahjfjpkbcnaaGreat
open Go.Proofs Go.RowKit
mutual
def rnS (r : ByteArray → ByteArray) : Tm → Tm
 | .mk op n text kids pats => if op = 4 then .mk op n (r text) kids pats else .mk op n text (rnSK r (boundL (.mk op n text kids pats)) kids 0) pats
def rnSK (r : ByteArray → ByteArray) (bnd : Nat → List ByteArray) : List Tm → Nat → List Tm
 | [], _ => []
 | k :: ks, i => rnS (fun y => if inL (bnd i) y.toList = true then y else r y) k :: rnSK r bnd ks (i + 1)
end
theorem rnS_mk (r : ByteArray → ByteArray) (op n : Int) (text : ByteArray) (kids : List Tm) (pats : List Pt) : rnS r (.mk op n text kids pats) = if op = 4 then .mk op n (r text) kids pats else .mk op n text (rnSK r (boundL (.mk op n text kids pats)) kids 0) pats := by
 conv => lhs; unfold rnS
theorem rnSK_nil (r : ByteArray → ByteArray) (bnd : Nat → List ByteArray) (i : Nat) : rnSK r bnd [] i = [] := by unfold rnSK; rfl
theorem rnSK_cons (r : ByteArray → ByteArray) (bnd : Nat → List ByteArray) (k : Tm) (ks : List Tm) (i : Nat) : rnSK r bnd (k :: ks) i = rnS (fun y => if inL (bnd i) y.toList = true then y else r y) k :: rnSK r bnd ks (i + 1) := by
 conv => lhs; unfold rnSK
theorem rnSK_len (r : ByteArray → ByteArray) (bnd : Nat → List ByteArray) : ∀ (ks : List Tm) (i : Nat), (rnSK r bnd ks i).length = ks.length
 | [], i => by rw [rnSK_nil]
 | k :: ks, i => by rw [rnSK_cons, List.length_cons, List.length_cons, rnSK_len r bnd ks (i + 1)]
mutual
theorem rnS_id (r : ByteArray → ByteArray) (h : ∀ y, r y = y) : ∀ T : Tm, rnS r T = T
 | .mk op n text kids pats => by rw [rnS_mk, h, rnSK_id r h]; split <;> rfl
theorem rnSK_id (r : ByteArray → ByteArray) (h : ∀ y, r y = y) (bnd : Nat → List ByteArray) : ∀ (ks : List Tm) (i : Nat), rnSK r bnd ks i = ks
 | [], i => by rw [rnSK_nil]
 | k :: ks, i => by rw [rnSK_cons, rnSK_id r h bnd ks (i + 1), rnS_id _ (fun y => by split <;> simp [h]) k]
end
mutual
theorem rnS_comp (r1 r2 : ByteArray → ByteArray) : ∀ (T : Tm), (∀ y, r1 y = y ∨ inL (standL T) (r1 y).toList = false) → rnS r2 (rnS r1 T) = rnS (fun y => r2 (r1 y)) T
 | .mk op n text kids pats, h => by
  rw [rnS_mk r1]
  by_cases h4 : op = 4
  ·rw [if_pos h4, rnS_mk, if_pos h4, rnS_mk, if_pos h4]
  ·rw [if_neg h4, rnS_mk, if_neg h4, rnS_mk, if_neg h4]
   have hb : boundL (.mk op n text (rnSK r1 (boundL (.mk op n text kids pats)) kids 0) pats) = boundL (.mk op n text kids pats) := rfl
   rw [hb, rnSK_comp r1 r2 (boundL (.mk op n text kids pats)) kids 0 fun j hj y => ?_]
   rw [Nat.zero_add]
   rcases h y with h' | h'
   ·exact .inl h'
   ·refine .inr ⟨?_, ?_⟩
    ·cases hs : inL (standL kids[j]) (r1 y).toList
     ·rfl
     ·rw [stand_kid (.mk op n text kids pats) j hj _ hs] at h'; cases h'
    ·cases hs : inL (boundL (.mk op n text kids pats) j) (r1 y).toList
     ·rfl
     ·rw [stand_bnd (.mk op n text kids pats) j hj _ hs] at h'; cases h'
theorem rnSK_comp (r1 r2 : ByteArray → ByteArray) (bnd : Nat → List ByteArray) : ∀ (ks : List Tm) (i : Nat), (∀ j (hj : j < ks.length) y, r1 y = y ∨ (inL (standL ks[j]) (r1 y).toList = false ∧ inL (bnd (i + j)) (r1 y).toList = false)) → rnSK r2 bnd (rnSK r1 bnd ks i) i = rnSK (fun y => r2 (r1 y)) bnd ks i
 | [], i, _ => by rw [rnSK_nil, rnSK_nil, rnSK_nil]
 | k :: ks, i, h => by
  have h0 := h 0 (by simp)
  rw [rnSK_cons, rnSK_cons, rnSK_cons, rnSK_comp r1 r2 bnd ks (i + 1) fun j hj y => by
   have := h (j + 1) (by simpa using hj) y
   rw [show i + 1 + j = i + (j + 1) by omega]
   simpa using this]
  rw [rnS_comp _ _ k fun y => by
   by_cases hb : inL (bnd i) y.toList = true
   ·exact .inl (if_pos hb)
   ·simp only [if_neg hb]
    rcases h0 y with h' | h'
    ·exact .inl h'
    ·exact .inr h'.1]
  congr 2
  funext y
  by_cases hb : inL (bnd i) y.toList = true
  ·rw [if_pos hb, if_pos hb, if_pos hb]
  ·rw [if_neg hb, if_neg hb]
   rcases h0 y with h' | h'
   ·rw [h', if_neg hb]
   ·rw [if_neg (by have := h'.2; rw [Nat.add_zero] at this; rw [this]; simp)]
end
def oneN (nm ot : ByteArray) (y : ByteArray) : ByteArray := if (y.toList == nm.toList) = true then ot else y
theorem hasB_inL (ss : List ByteArray) (s : ByteArray) : hasB ss s = inL ss s.toList := rfl
mutual
theorem rnM_S (nm ot : ByteArray) : ∀ T : Tm, rnM nm ot T = rnS (oneN nm ot) T
 | .mk op n text kids pats => by
  rw [rnM_mk, rnS_mk, rnK_S nm ot _ kids 0]
  rfl
theorem rnK_S (nm ot : ByteArray) (bnd : Nat → List ByteArray) : ∀ (ks : List Tm) (i : Nat), rnK nm ot bnd ks i = rnSK (oneN nm ot) bnd ks i
 | [], i => by rw [rnSK_nil]; unfold rnK; rfl
 | k :: ks, i => by
  have e : rnK nm ot bnd (k :: ks) i = (if hasB (bnd i) nm = true then k else rnM nm ot k) :: rnK nm ot bnd ks (i + 1) := by conv => lhs; unfold rnK
  rw [e, rnSK_cons, rnK_S nm ot bnd ks (i + 1), hasB_inL]
  congr 1
  by_cases hb : inL (bnd i) nm.toList = true
  ·rw [if_pos hb, rnS_id]
   intro y
   split
   ·rfl
   ·rename_i hy
    unfold oneN
    rw [if_neg]
    intro e
    rw [show y.toList = nm.toList by simpa using e] at hy
    exact hy hb
  ·rw [if_neg hb, rnM_S nm ot k]
   congr 1
   funext y
   split
   ·rename_i hy
    unfold oneN
    rw [if_neg]
    intro e
    rw [show y.toList = nm.toList by simpa using e] at hy
    exact hb hy
   ·rfl
end
mutual
def rnF (r : ByteArray → ByteArray) : Pt → Pt
 | .mk f n t ps => .mk f n (if f = 2 then r t else t) (rnFs r ps)
def rnFs (r : ByteArray → ByteArray) : List Pt → List Pt
 | [] => []
 | p :: ps => rnF r p :: rnFs r ps
end
theorem rnF_mk (r : ByteArray → ByteArray) (f n : Int) (t : ByteArray) (ps : List Pt) : rnF r (.mk f n t ps) = .mk f n (if f = 2 then r t else t) (rnFs r ps) := by conv => lhs; unfold rnF
theorem rnFs_nil (r : ByteArray → ByteArray) : rnFs r [] = [] := by unfold rnFs; rfl
theorem rnFs_cons (r : ByteArray → ByteArray) (p : Pt) (ps : List Pt) : rnFs r (p :: ps) = rnF r p :: rnFs r ps := by conv => lhs; unfold rnFs
mutual
theorem rnF_comp (r1 r2 : ByteArray → ByteArray) : ∀ p : Pt, rnF r2 (rnF r1 p) = rnF (fun y => r2 (r1 y)) p
 | .mk f n t ps => by
  rw [rnF_mk, rnF_mk, rnF_mk, rnFs_comp r1 r2 ps]
  split <;> rfl
theorem rnFs_comp (r1 r2 : ByteArray → ByteArray) : ∀ ps : List Pt, rnFs r2 (rnFs r1 ps) = rnFs (fun y => r2 (r1 y)) ps
 | [] => by rw [rnFs_nil, rnFs_nil, rnFs_nil]
 | p :: ps => by rw [rnFs_cons, rnFs_cons, rnFs_cons, rnF_comp r1 r2 p, rnFs_comp r1 r2 ps]
end
mutual
theorem rnP_F (nm ot : ByteArray) : ∀ p : Pt, rnP nm ot p = rnF (oneN nm ot) p
 | .mk f n t ps => by
  have e : rnP nm ot (.mk f n t ps) = .mk f n (if f = 2 ∧ (t.toList == nm.toList) = true then ot else t) (rnPs nm ot ps) := by conv => lhs; unfold rnP
  rw [e, rnF_mk, rnPs_F nm ot ps]
  unfold oneN
  by_cases h : f = 2 <;> simp [h]
theorem rnPs_F (nm ot : ByteArray) : ∀ ps : List Pt, rnPs nm ot ps = rnFs (oneN nm ot) ps
 | [] => by rw [rnFs_nil]; unfold rnPs; rfl
 | p :: ps => by
  have e : rnPs nm ot (p :: ps) = rnP nm ot p :: rnPs nm ot ps := by conv => lhs; unfold rnPs
  rw [e, rnFs_cons, rnP_F nm ot p, rnPs_F nm ot ps]
end
def fS (sc : Sc) (y : ByteArray) : ByteArray := (findS sc y).getD y
mutual
theorem renP_F (sc : Sc) : ∀ p : Pt, renP sc p = rnF (fS sc) p
 | .mk f n t ps => by rw [renP_mk, rnF_mk, renPs_F sc ps]; rfl
theorem renPs_F (sc : Sc) : ∀ ps : List Pt, renPs sc ps = rnFs (fS sc) ps
 | [] => by rw [rnFs_nil]; unfold renPs; rfl
 | p :: ps => by
  have e : renPs sc (p :: ps) = renP sc p :: renPs sc ps := by conv => lhs; unfold renPs
  rw [e, rnFs_cons, renP_F sc p, renPs_F sc ps]
end
mutual
theorem rnF_keep (r : ByteArray → ByteArray) : ∀ (p : Pt) (d : Int), (∀ y ∈ namesL ((partsP d p).map (·.2)), r y = y) → rnF r p = p
 | .mk f n t ps, d, h => by
  rw [rnF_mk]
  rw [partsP_mk, List.map_cons] at h
  rw [rnFs_keep r ps (d + 1) fun y hy => h y (by
   unfold namesL at hy ⊢
   rw [List.filter_cons]
   split
   ·exact List.mem_cons_of_mem _ hy
   ·exact hy)]
  by_cases h2 : f = 2
  ·rw [if_pos h2, h t (by
    unfold namesL
    rw [List.filter_cons_of_pos (by exact decide_eq_true h2)]
    exact List.mem_cons_self)]
  ·rw [if_neg h2]
theorem rnFs_keep (r : ByteArray → ByteArray) : ∀ (ps : List Pt) (d : Int), (∀ y ∈ namesL ((partssP d ps).map (·.2)), r y = y) → rnFs r ps = ps
 | [], _, _ => by rw [rnFs_nil]
 | p :: ps, d, h => by
  have e : partssP d (p :: ps) = partsP d p ++ partssP d ps := by conv => lhs; unfold partssP
  have e2 : namesL ((partssP d (p :: ps)).map (·.2)) = namesL ((partsP d p).map (·.2)) ++ namesL ((partssP d ps).map (·.2)) := by
   rw [e]; unfold namesL; rw [List.map_append, List.filter_append, List.map_append]
  rw [e2] at h
  rw [rnFs_cons, rnF_keep r p d fun y hy => h y (List.mem_append_left _ hy), rnFs_keep r ps d fun y hy => h y (List.mem_append_right _ hy)]
end
theorem fS_list (sc : Sc) (y : ByteArray) : (fS sc y).toList = rnL sc y.toList := (rnL_find sc y).symm
theorem fS_skip (bs os : List ByteArray) (sc : Sc) (y : ByteArray) (hl : os.length = bs.length) (h : inL bs y.toList = false) : fS (pushS bs os sc) y = fS sc y :=
 bytes_ext (by rw [fS_list, fS_list, rnL_skip bs os sc _ hl h])
theorem fS_self (bs : List ByteArray) (sc : Sc) (y : ByteArray) (h : inL bs y.toList = true) : fS (pushS bs bs sc) y = y :=
 bytes_ext (by rw [fS_list, rnL_id bs sc _ h])
theorem fS_nil (y : ByteArray) : fS [] y = y := rfl
theorem fS_cons (x s : ByteArray) (sc : Sc) (y : ByteArray) : fS ((x, s) :: sc) y = if (x.toList == y.toList) = true then s else fS sc y := by
 unfold fS
 conv => lhs; unfold findS
 split <;> rfl
def okR1 (T : Tm) : Prop := (T.op = 4 → T.kids = []) ∧ (T.op ≠ 15 → T.pats = []) ∧ shapeT T ∧ ∀ p ∈ T.pats, ((namesP p).map (·.toList)).Nodup
abbrev okR (T : Tm) : Prop := ∀ x ∈ partsM 1 T, okR1 x.2
theorem okR_of {T : Tm} (h : termB T = true) : okR T := fun x hx => by
 obtain ⟨d, T'⟩ := x
 have hf : T'.fits = true := goM_all _ 0 h (d, T') hx
 cases T' with
 | mk op n text kids pats => exact ⟨(fits_okN hf).2.1, pats_of_fits hf, (fits_shape hf).2, fun p hp => ((patB_iff p).1 ((fits_pats hf).2 p hp)).2.2⟩
theorem okR.top {T : Tm} (h : okR T) : okR1 T := h (1, T) (by rw [partsM_eq]; exact List.mem_cons_self)
theorem partsM_up (T : Tm) (x : Int × Tm) (h : x ∈ partsM 1 T) : (x.1 + 1, x.2) ∈ partsM 2 T := by
 have e : partsM 2 T = (partsM 1 T).map fun x => (x.1 + 1, x.2) := partsM_shf T 1 1
 rw [e]
 exact List.mem_map_of_mem (f := fun x : Int × Tm => (x.1 + 1, x.2)) h
theorem okR.kid {T : Tm} (h : okR T) (j : Nat) (hj : j < T.kids.length) : okR T.kids[j] := fun x hx =>
 h (x.1 + 1, x.2) (by rw [partsM_eq]; exact List.mem_cons_of_mem _ ((partss_has T.kids 2 j hj).1 _ (partsM_up _ _ hx)))
mutual
theorem okR1_rn (r : ByteArray → ByteArray) : ∀ (T : Tm) (d : Int), (∀ x ∈ partsM d T, okR1 x.2) → ∀ x ∈ partsM d (rnS r T), okR1 x.2
 | .mk op n text kids pats, d, h => by
  have h0 := h (d, .mk op n text kids pats) (by rw [partsM_eq]; exact List.mem_cons_self)
  obtain ⟨a1, a2, ⟨a3, a4, a5⟩, a6⟩ := h0
  rw [rnS_mk]
  by_cases h4 : op = 4
  ·rw [if_pos h4]
   have hk : kids = [] := a1 h4
   subst hk
   intro x hx
   rw [partsM_eq] at hx
   rcases List.mem_cons.1 hx with rfl | hx
   ·exact ⟨a1, a2, ⟨a3, a4, a5⟩, a6⟩
   ·unfold partssM at hx; cases hx
  ·rw [if_neg h4]
   intro x hx
   rw [partsM_eq] at hx
   rcases List.mem_cons.1 hx with rfl | hx
   ·refine ⟨fun h => absurd h h4, a2, ⟨fun h => ?_, fun h => ?_, fun h => ?_⟩, a6⟩
    ·exact (rnSK_len _ _ _ _).trans (a3 h)
    ·exact (rnSK_len _ _ _ _).trans (a4 h)
    ·exact Nat.le_trans (a5 h) (Nat.le_of_eq (rnSK_len _ _ _ _).symm)
   ·exact okR1_rnK r _ kids 0 (d + 1) (fun x hx => h x (by rw [partsM_eq]; exact List.mem_cons_of_mem _ hx)) x hx
theorem okR1_rnK (r : ByteArray → ByteArray) (bnd : Nat → List ByteArray) : ∀ (ks : List Tm) (i : Nat) (d : Int), (∀ x ∈ partssM d ks, okR1 x.2) → ∀ x ∈ partssM d (rnSK r bnd ks i), okR1 x.2
 | [], i, d, _ => fun x hx => by rw [rnSK_nil] at hx; unfold partssM at hx; cases hx
 | k :: ks, i, d, h => fun x hx => by
  rw [rnSK_cons, partssM_cons] at hx
  rw [partssM_cons] at h
  rcases List.mem_append.1 hx with hx | hx
  ·exact okR1_rn _ k d (fun x hx => h x (List.mem_append_left _ hx)) x hx
  ·exact okR1_rnK r bnd ks (i + 1) d (fun x hx => h x (List.mem_append_right _ hx)) x hx
end
theorem node_same (sg : NS) (sc : Sc) (T : Tm) (ks : List Tm) (h : okR1 T) : rebPats T (scp chSame (boundL T) sc sg T.kids.length).1 = T.pats ∧ (T.op ≠ 4 → rebText T (scp chSame (boundL T) sc sg T.kids.length).1 = T.text) := by
 obtain ⟨a1, a2, a3, a6⟩ := h
 constructor
 ·by_cases h15 : T.op = 15
  ·refine List.ext_getElem (rebPats_len h15) fun i hi hi' => ?_
   have he := rebPats_at T (scp chSame (boundL T) sc sg T.kids.length).1 h15 i
   have hik : i + 1 < T.kids.length := by have := a3.2.2 h15; omega
   rw [List.getElem?_eq_getElem hi, List.getElem?_eq_getElem hi', Option.map_some, scp_sameD _ _ _ _ _ hik] at he
   rw [Option.some.inj he]
   have hb : boundL T (i + 1) = namesP T.pats[i] := by
    unfold boundL
    rw [if_neg (by omega), if_pos ⟨h15, by omega⟩, show i + 1 - 1 = i by omega, List.getElem?_eq_getElem hi']
    rfl
   rw [hb, renP_F]
   exact rnF_keep _ _ 1 fun y hy => fS_self _ _ _ (mem_inL hy)
  ·rw [rebPats_no h15, a2 h15]
 ·intro h4
  have hb := bound_node chSame sg sc T ks a3 a6
  simp only [outC_same] at hb
  by_cases h5 : T.op = 5 ∨ T.op = 27
  ·have h0 := hb 0 (by rw [a3.1 h5]; omega)
   have e1 : boundL T 0 = [T.text] := by unfold boundL; rw [if_pos (by omega)]
   have e2 : boundL (nodeC chSame sg sc T ks) 0 = [(nodeC chSame sg sc T ks).text] := by unfold boundL; rw [if_pos (by show T.op = 5 ∨ T.op = 27 ∨ (T.op = 7 ∧ 0 = 1); omega)]
   rw [e1, e2] at h0
   have h1 : (nodeC chSame sg sc T ks).text = T.text := by simpa using h0
   rw [← h1]
   show _ = (if T.op = 4 then _ else _)
   rw [if_neg h4]
  by_cases h7 : T.op = 7
  ·have h0 := hb 1 (by rw [a3.2.1 h7]; omega)
   have e1 : boundL T 1 = [T.text] := by unfold boundL; rw [if_pos (by omega)]
   have e2 : boundL (nodeC chSame sg sc T ks) 1 = [(nodeC chSame sg sc T ks).text] := by unfold boundL; rw [if_pos (by show T.op = 5 ∨ T.op = 27 ∨ (T.op = 7 ∧ 1 = 1); omega)]
   rw [e1, e2] at h0
   have h1 : (nodeC chSame sg sc T ks).text = T.text := by simpa using h0
   rw [← h1]
   show _ = (if T.op = 4 then _ else _)
   rw [if_neg h4]
  ·unfold rebText; rw [if_neg (by omega)]
mutual
theorem same_S : ∀ (T : Tm) (d : Int) (sg : NS) (sc : Sc), (∀ x ∈ partsM d T, okR1 x.2) → renM chSame sg sc T = (rnS (fS sc) T, sg)
 | .mk op n text kids pats, d, sg, sc, h => by
  have h0 := h (d, .mk op n text kids pats) (by rw [partsM_eq]; exact List.mem_cons_self)
  obtain ⟨e1, e2⟩ := node_same sg sc _ [] h0
  have hscp := scp_same (boundL (.mk op n text kids pats)) sc sg kids.length
  have hk := same_SK kids (d + 1) sg (scp chSame (boundL (.mk op n text kids pats)) sc sg kids.length).1 (boundL (.mk op n text kids pats)) sc 0 (fun x hx => h x (by rw [partsM_eq]; exact List.mem_cons_of_mem _ hx)) fun j hj => by
   rw [Nat.zero_add]; exact scp_sameD _ _ _ _ _ hj
  rw [renM_eq, rnS_mk]
  show (Tm.mk op n (if op = 4 then (findS sc text).getD text else rebText (.mk op n text kids pats) (scp chSame (boundL (.mk op n text kids pats)) sc sg kids.length).1) (renK chSame (scp chSame (boundL (.mk op n text kids pats)) sc sg kids.length).2 (scp chSame (boundL (.mk op n text kids pats)) sc sg kids.length).1 kids).1 (rebPats (.mk op n text kids pats) (scp chSame (boundL (.mk op n text kids pats)) sc sg kids.length).1), (renK chSame (scp chSame (boundL (.mk op n text kids pats)) sc sg kids.length).2 (scp chSame (boundL (.mk op n text kids pats)) sc sg kids.length).1 kids).2) = _
  change rebPats (.mk op n text kids pats) (scp chSame (boundL (.mk op n text kids pats)) sc sg kids.length).1 = pats at e1
  rw [e1, hscp, hk]
  by_cases h4 : op = 4
  ·rw [if_pos h4, if_pos h4]
   have hkn : kids = [] := h0.1 h4
   subst hkn
   rw [rnSK_nil]
   rfl
  ·rw [if_neg h4, if_neg h4]
   have e3 := e2 h4
   change rebText (.mk op n text kids pats) (scp chSame (boundL (.mk op n text kids pats)) sc sg kids.length).1 = text at e3
   rw [e3]
theorem same_SK : ∀ (ks : List Tm) (d : Int) (sg : NS) (scs : List Sc) (bnd : Nat → List ByteArray) (sc : Sc) (i : Nat), (∀ x ∈ partssM d ks, okR1 x.2) → (∀ j, j < ks.length → scs.getD j [] = pushS (bnd (i + j)) (bnd (i + j)) sc) → renK chSame sg scs ks = (rnSK (fS sc) bnd ks i, sg)
 | [], d, sg, scs, bnd, sc, i, _, _ => by rw [rnSK_nil]; unfold renK; rfl
 | k :: ks, d, sg, scs, bnd, sc, i, h, hs => by
  have hh : scs.headD [] = scs.getD 0 [] := by cases scs <;> rfl
  have ht : ∀ j, scs.tail.getD j [] = scs.getD (j + 1) [] := fun j => by cases scs <;> simp
  rw [partssM_cons] at h
  rw [renK_cons, rnSK_cons, hh, hs 0 (by simp), Nat.add_zero]
  rw [same_S k d sg _ fun x hx => h x (List.mem_append_left _ hx)]
  simp only
  rw [same_SK ks d sg scs.tail bnd sc (i + 1) (fun x hx => h x (List.mem_append_right _ hx)) fun j hj => by rw [ht, hs (j + 1) (by simpa using hj), show i + 1 + j = i + (j + 1) by omega]]
  have e : fS (pushS (bnd i) (bnd i) sc) = fun y => if inL (bnd i) y.toList = true then y else fS sc y := by
   funext y
   split
   ·rename_i hb; exact fS_self _ _ _ hb
   ·rename_i hb; exact fS_skip _ _ _ _ rfl (by simpa using hb)
  rw [e]
end
def stT (T : Tm) (sc : Nat → Sc) : Tm := .mk T.op T.n (if T.op = 5 ∨ T.op = 27 then fS (sc 0) T.text else if T.op = 7 then fS (sc 1) T.text else T.text)
 ((List.range T.kids.length).map fun i => rnS (fS (sc i)) (T.kids.getD i default)) (if T.op = 15 then (List.range T.pats.length).map fun i => rnF (fS (sc (i + 1))) (T.pats.getD i default) else T.pats)
def updS (sc : Nat → Sc) (i : Nat) (s : Sc) : Nat → Sc := fun j => if j = i then s else sc j
theorem range_getD {α : Type} [Inhabited α] (xs : List α) : (List.range xs.length).map (fun i => xs.getD i default) = xs := by
 refine List.ext_getElem (by simp) fun i h1 h2 => ?_
 rw [List.getElem_map, List.getElem_range, List.getD_eq_getElem?_getD, List.getElem?_eq_getElem h2]
 rfl
theorem stT_nil (T : Tm) : stT T (fun _ => []) = T := by
 unfold stT
 have h1 : (fun i => rnS (fS []) (T.kids.getD i default)) = fun i => T.kids.getD i default := by funext i; exact rnS_id _ fS_nil _
 have h2 : (fun i => rnF (fS []) (T.pats.getD i default)) = fun i => T.pats.getD i default := by funext i; exact rnF_keep _ _ 1 fun y _ => rfl
 rw [h1, h2, range_getD, range_getD]
 have h3 : (if T.op = 5 ∨ T.op = 27 then fS [] T.text else if T.op = 7 then fS [] T.text else T.text) = T.text := by
  split
  ·rfl
  ·split <;> rfl
 have h4 : (if T.op = 15 then T.pats else T.pats) = T.pats := by split <;> rfl
 rw [h3, h4]
 cases T
 rfl
theorem boundT (T : Tm) (sc : Nat → Sc) (h : shapeT T) (i : Nat) (hi : i < T.kids.length) (hs : sc i = []) : boundL (stT T sc) i = boundL T i := by
 obtain ⟨s5, s7, s15⟩ := h
 unfold boundL
 show (if T.op = 5 ∨ T.op = 27 ∨ (T.op = 7 ∧ i = 1) then [if T.op = 5 ∨ T.op = 27 then fS (sc 0) T.text else if T.op = 7 then fS (sc 1) T.text else T.text] else if T.op = 15 ∧ 0 < i then ((if T.op = 15 then (List.range T.pats.length).map fun i => rnF (fS (sc (i + 1))) (T.pats.getD i default) else T.pats)[i - 1]?.map namesP).getD [] else []) = _
 by_cases h1 : T.op = 5 ∨ T.op = 27 ∨ (T.op = 7 ∧ i = 1)
 ·rw [if_pos h1, if_pos h1]
  by_cases h5 : T.op = 5 ∨ T.op = 27
  ·have := s5 h5
   obtain rfl : i = 0 := by omega
   rw [if_pos h5, hs, fS_nil]
  ·rw [if_neg h5, if_pos (by omega)]
   obtain rfl : i = 1 := by omega
   rw [hs, fS_nil]
 ·rw [if_neg h1, if_neg h1]
  by_cases h15 : T.op = 15 ∧ 0 < i
  ·rw [if_pos h15, if_pos h15, if_pos h15.1, List.getElem?_map]
   by_cases hl : i - 1 < T.pats.length
   ·rw [List.getElem?_range hl]
    show (some (namesP (rnF (fS (sc (i - 1 + 1))) (T.pats.getD (i - 1) default)))).getD [] = _
    rw [show i - 1 + 1 = i by omega, hs, rnF_keep (fS []) _ 1 (fun y _ => rfl), List.getD_eq_getElem?_getD, List.getElem?_eq_getElem hl]
    rfl
   ·rw [List.getElem?_eq_none (by simpa using hl), List.getElem?_eq_none (by omega)]
    rfl
  ·rw [if_neg h15, if_neg h15]
theorem rb_st (T : Tm) (sc : Nat → Sc) (hR : okR1 T) (i : Nat) (hi : i < T.kids.length) (x s : ByteArray) (hx : x ∈ boundL T i)
  (h1 : ∀ y, oneN x s (fS (sc i) y) = fS ((x, s) :: sc i) y) (h2 : ∀ y, fS (sc i) y = y ∨ inL (standL T.kids[i]) (fS (sc i) y).toList = false) :
  rbM x s i (stT T sc) = stT T (updS sc i ((x, s) :: sc i)) := by
 obtain ⟨-, -, ⟨s5, s7, s15⟩, -⟩ := hR
 have hfun : (fun y => oneN x s (fS (sc i) y)) = fS ((x, s) :: sc i) := funext h1
 have hxs : fS ((x, s) :: sc i) x = s := by rw [fS_cons, if_pos (by simp)]
 have hk : (((List.range T.kids.length).map fun i => rnS (fS (sc i)) (T.kids.getD i default)).set i (rnM x s (((List.range T.kids.length).map fun i => rnS (fS (sc i)) (T.kids.getD i default)).getD i default))) = (List.range T.kids.length).map fun j => rnS (fS (updS sc i ((x, s) :: sc i) j)) (T.kids.getD j default) := by
  refine List.ext_getElem (by simp) fun j h5 h6 => ?_
  have hj : j < T.kids.length := by simpa using h6
  rw [List.getElem_set, List.getElem_map, List.getElem_range, List.getElem_map, List.getElem_range]
  unfold updS
  by_cases e : i = j
  ·subst e
   rw [if_pos rfl, if_pos rfl, List.getD_eq_getElem?_getD, List.getElem?_map, List.getElem?_range hi]
   show rnM x s (rnS (fS (sc i)) (T.kids.getD i default)) = _
   have hg : T.kids.getD i default = T.kids[i] := by rw [List.getD_eq_getElem?_getD, List.getElem?_eq_getElem hi]; rfl
   rw [rnM_S, hg, rnS_comp _ _ _ h2, hfun]
  ·rw [if_neg e, if_neg (fun h => e h.symm)]
 show Tm.mk T.op T.n (if T.op = 15 then (if T.op = 5 ∨ T.op = 27 then fS (sc 0) T.text else if T.op = 7 then fS (sc 1) T.text else T.text) else s) (((List.range T.kids.length).map fun i => rnS (fS (sc i)) (T.kids.getD i default)).set i (rnM x s (((List.range T.kids.length).map fun i => rnS (fS (sc i)) (T.kids.getD i default)).getD i default)))
  (if T.op = 15 then (if T.op = 15 then (List.range T.pats.length).map fun i => rnF (fS (sc (i + 1))) (T.pats.getD i default) else T.pats).set (i - 1) (rnP x s ((if T.op = 15 then (List.range T.pats.length).map fun i => rnF (fS (sc (i + 1))) (T.pats.getD i default) else T.pats).getD (i - 1) default)) else (if T.op = 15 then (List.range T.pats.length).map fun i => rnF (fS (sc (i + 1))) (T.pats.getD i default) else T.pats)) = _
 rw [hk]
 unfold stT
 by_cases h15 : T.op = 15
 ·have hb : boundL T i = if 0 < i then (T.pats[i - 1]?.map namesP).getD [] else [] := by
   unfold boundL
   rw [if_neg (by omega)]
   by_cases h0 : 0 < i
   ·rw [if_pos ⟨h15, h0⟩, if_pos h0]
   ·rw [if_neg (fun h => h0 h.2), if_neg h0]
  have h0 : 0 < i := by
   rw [hb] at hx
   by_cases h0 : 0 < i
   ·exact h0
   ·rw [if_neg h0] at hx; cases hx
  have hl : i - 1 < T.pats.length := by
   rw [hb, if_pos h0] at hx
   by_cases hl : i - 1 < T.pats.length
   ·exact hl
   ·rw [List.getElem?_eq_none (by omega)] at hx; cases hx
  simp only [if_pos h15]
  rw [if_neg (by omega), if_neg (by omega), if_neg (by omega), if_neg (by omega)]
  congr 1
  refine List.ext_getElem (by simp) fun j h5 h6 => ?_
  have hj : j < T.pats.length := by simpa using h6
  rw [List.getElem_set, List.getElem_map, List.getElem_range, List.getElem_map, List.getElem_range]
  unfold updS
  by_cases e : i - 1 = j
  ·subst e
   rw [if_pos rfl, if_pos (by omega), List.getD_eq_getElem?_getD, List.getElem?_map, List.getElem?_range hl]
   show rnP x s (rnF (fS (sc (i - 1 + 1))) (T.pats.getD (i - 1) default)) = _
   rw [rnP_F, show i - 1 + 1 = i by omega, rnF_comp, hfun]
  ·rw [if_neg e, if_neg (by omega)]
 ·simp only [if_neg h15]
  congr 1
  by_cases h5 : T.op = 5 ∨ T.op = 27
  ·have hb : boundL T i = [T.text] := by unfold boundL; rw [if_pos (by omega)]
   rw [hb, List.mem_singleton] at hx
   have := s5 h5
   obtain rfl : i = 0 := by omega
   rw [if_pos h5]
   unfold updS
   rw [if_pos rfl, ← hx, hxs]
  ·by_cases h7 : T.op = 7
   ·by_cases hi1 : i = 1
    ·subst hi1
     have hb : boundL T 1 = [T.text] := by unfold boundL; rw [if_pos (by omega)]
     rw [hb, List.mem_singleton] at hx
     rw [if_neg h5, if_pos h7]
     unfold updS
     rw [if_pos rfl, ← hx, hxs]
    ·have hb : boundL T i = [] := by unfold boundL; rw [if_neg (by omega), if_neg (by omega)]
     rw [hb] at hx; cases hx
   ·have hb : boundL T i = [] := by unfold boundL; rw [if_neg (by omega), if_neg (by omega)]
    rw [hb] at hx; cases hx
theorem ltB_eq (a b : ByteArray) : ltB a b = decide (a.toList < b.toList) := Go.Proofs.bytesLess_eq _ _
abbrev SortedL (l : List ByteArray) : Prop := l.Pairwise fun a b => a.toList < b.toList
theorem list_lt_of {a b : List UInt8} (h : ¬ a < b) (h2 : a ≠ b) : b < a := by
 by_cases h3 : b < a
 ·exact h3
 ·exact absurd (List.le_antisymm (List.not_lt.1 h3) (List.not_lt.1 h)) h2
theorem mem_putL (s : ByteArray) (x : List UInt8) : ∀ l : List ByteArray, (∃ y ∈ putL s l, y.toList = x) ↔ x = s.toList ∨ ∃ y ∈ l, y.toList = x
 | [] => by simp [putL, eq_comm]
 | z :: l => by
  have ih := mem_putL s x l
  unfold putL
  split
  ·simp only [List.mem_cons, exists_eq_or_imp, ih]
   constructor
   ·rintro (h | h | h)
    ·exact .inr (.inl h)
    ·exact .inl h
    ·exact .inr (.inr h)
   ·rintro (h | h | h)
    ·exact .inr (.inl h)
    ·exact .inl h
    ·exact .inr (.inr h)
  ·split
   ·rename_i h
    have he := eq_of_beq h
    simp only [List.mem_cons, exists_eq_or_imp]
    constructor
    ·exact .inr
    ·rintro (h | h)
     ·exact .inl (by rw [he, h])
     ·exact h
   ·simp only [List.mem_cons, exists_eq_or_imp]
    constructor
    ·rintro (h | h)
     ·exact .inl h.symm
     ·exact .inr h
    ·rintro (h | h)
     ·exact .inl h.symm
     ·exact .inr h
theorem putL_sorted (s : ByteArray) : ∀ l : List ByteArray, SortedL l → SortedL (putL s l)
 | [], _ => by unfold putL; exact List.pairwise_singleton _ _
 | z :: l, h => by
  obtain ⟨h1, h2⟩ := List.pairwise_cons.1 h
  unfold putL
  split
  ·rename_i hz
   rw [ltB_eq] at hz
   refine List.pairwise_cons.2 ⟨fun y hy => ?_, putL_sorted s l h2⟩
   rcases (mem_putL s y.toList l).1 ⟨y, hy, rfl⟩ with h | ⟨y', hy', he⟩
   ·rw [h]; exact of_decide_eq_true hz
   ·rw [← he]; exact h1 y' hy'
  ·rename_i hz
   rw [ltB_eq] at hz
   split
   ·exact h
   ·rename_i hne
    have hlt : s.toList < z.toList := list_lt_of (by simpa using hz) (by simpa using hne)
    refine List.pairwise_cons.2 ⟨fun y hy => ?_, h⟩
    rcases List.mem_cons.1 hy with rfl | hy
    ·exact hlt
    ·exact List.lt_trans hlt (h1 y hy)
theorem mem_addL (b : List ByteArray) (x : List UInt8) : ∀ (xs out : List ByteArray), (∃ y ∈ addL b xs out, y.toList = x) ↔ (∃ y ∈ out, y.toList = x) ∨ ((∃ y ∈ xs, y.toList = x) ∧ inL b x = false)
 | [], out => by simp [addL]
 | z :: xs, out => by
  unfold addL
  rw [mem_addL b x xs]
  have hb : hasB b z = inL b z.toList := rfl
  cases hz : hasB b z with
  | true =>
   simp only [if_true, List.mem_cons, exists_eq_or_imp]
   constructor
   ·rintro (h | ⟨h1, h2⟩)
    ·exact .inl h
    ·exact .inr ⟨.inr h1, h2⟩
   ·rintro (h | ⟨h1 | h1, h2⟩)
    ·exact .inl h
    ·rw [hb, h1, h2] at hz; cases hz
    ·exact .inr ⟨h1, h2⟩
  | false =>
   rw [if_neg (by simp), mem_putL]
   simp only [List.mem_cons, exists_eq_or_imp]
   rw [hb] at hz
   constructor
   ·rintro ((h | h) | ⟨h1, h2⟩)
    ·exact .inr ⟨.inl h.symm, by rw [h]; exact hz⟩
    ·exact .inl h
    ·exact .inr ⟨.inr h1, h2⟩
   ·rintro (h | ⟨h1 | h1, h2⟩)
    ·exact .inl (.inr h)
    ·exact .inl (.inl h1.symm)
    ·exact .inr ⟨h1, h2⟩
theorem addL_sorted (b : List ByteArray) : ∀ (xs out : List ByteArray), SortedL out → SortedL (addL b xs out)
 | [], _, h => h
 | z :: xs, out, h => by
  unfold addL
  refine addL_sorted b xs _ ?_
  split
  ·exact h
  ·exact putL_sorted z out h
theorem rfreeK_sorted (bnd : Nat → List ByteArray) : ∀ (ks : List Tm) (i : Nat) (out : List ByteArray), SortedL out → SortedL (rfreeK bnd ks i out)
 | [], _, _, h => h
 | k :: ks, i, out, h => by
  unfold rfreeK
  exact rfreeK_sorted bnd ks (i + 1) _ (addL_sorted _ _ _ h)
theorem rfree_sorted (T : Tm) : SortedL (rfree T) := by
 cases T with
 | mk op n t ks ps =>
  unfold rfree
  split
  ·exact List.pairwise_singleton _ _
  ·exact rfreeK_sorted _ ks 0 [] List.Pairwise.nil
mutual
theorem mem_frees : ∀ (T : Tm) (bd : List UInt8 → Bool) (x : List UInt8), x ∈ frees bd T ↔ x ∈ frees (fun _ => false) T ∧ bd x = false
 | .mk op n t ks ps, bd, x => by
  unfold frees
  rw [List.mem_append, List.mem_append, mem_freesB _ ks bd 0 x]
  constructor
  ·rintro (h | h)
   ·split at h
    ·rename_i h4
     have hx : x = t.toList := by simpa using h
     exact ⟨.inl (by rw [if_pos ⟨h4.1, rfl⟩]; exact h), by rw [hx]; exact h4.2⟩
    ·cases h
   ·exact ⟨.inr h.1, h.2⟩
  ·rintro ⟨h | h, hb⟩
   ·split at h
    ·rename_i h4
     have hx : x = t.toList := by simpa using h
     exact .inl (by rw [if_pos ⟨h4.1, by rw [← hx]; exact hb⟩]; exact h)
    ·cases h
   ·exact .inr ⟨h, hb⟩
theorem mem_freesB (bnd : Nat → List ByteArray) : ∀ (ks : List Tm) (bd : List UInt8 → Bool) (i : Nat) (x : List UInt8), x ∈ freesK bd bnd ks i ↔ x ∈ freesK (fun _ => false) bnd ks i ∧ bd x = false
 | [], _, _, _ => by unfold freesK; simp
 | k :: ks, bd, i, x => by
  unfold freesK
  rw [List.mem_append, List.mem_append, mem_frees k (fun x => bd x || (bnd i).any fun s => s.toList == x) x, mem_frees k (fun x => false || (bnd i).any fun s => s.toList == x) x, mem_freesB bnd ks bd (i + 1) x]
  simp only [Bool.or_eq_false_iff, Bool.false_or]
  constructor
  ·rintro (⟨h1, h2, h3⟩ | ⟨h1, h2⟩)
   ·exact ⟨.inl ⟨h1, h3⟩, h2⟩
   ·exact ⟨.inr h1, h2⟩
  ·rintro ⟨⟨h1, h3⟩ | h1, h2⟩
   ·exact .inl ⟨h1, h2, h3⟩
   ·exact .inr ⟨h1, h2⟩
end
mutual
theorem mem_rfree : ∀ (T : Tm) (x : List UInt8), okN T → ((∃ y ∈ rfree T, y.toList = x) ↔ x ∈ frees (fun _ => false) T)
 | .mk op n t ks ps, x, hok => by
  unfold okN at hok
  unfold rfree frees
  by_cases h4 : op = 4
  ·rw [if_pos h4, if_pos ⟨h4, rfl⟩]
   have hk := hok.2.1 h4
   subst hk
   unfold freesK
   simp [eq_comm]
  ·rw [if_neg h4, if_neg (fun h => h4 h.1), mem_rfreeK _ ks 0 [] x hok.2.2.2.2.2]
   simp
theorem mem_rfreeK (bnd : Nat → List ByteArray) : ∀ (ks : List Tm) (i : Nat) (out : List ByteArray) (x : List UInt8), okNs ks → ((∃ y ∈ rfreeK bnd ks i out, y.toList = x) ↔ (∃ y ∈ out, y.toList = x) ∨ x ∈ freesK (fun _ => false) bnd ks i)
 | [], _, _, _, _ => by unfold rfreeK freesK; simp
 | k :: ks, i, out, x, hok => by
  unfold okNs at hok
  unfold rfreeK freesK
  rw [mem_rfreeK bnd ks (i + 1) _ x hok.2, mem_addL, mem_rfree k x hok.1, List.mem_append, mem_frees k (fun x => false || (bnd i).any fun s => s.toList == x) x]
  simp only [Bool.false_or]
  constructor
  ·rintro ((h | ⟨h1, h2⟩) | h)
   ·exact .inl h
   ·exact .inr (.inl ⟨h1, h2⟩)
   ·exact .inr (.inr h)
  ·rintro (h | ⟨h1, h2⟩ | h)
   ·exact .inl (.inl h)
   ·exact .inl (.inr ⟨h1, h2⟩)
   ·exact .inr h
end
theorem bytesArr_toList (s : ByteArray) : bytesArr s.toList = s := by
 apply ByteArray.ext
 rw [ByteArray.toList_eq]
 simp [bytesArr]
theorem sortedL_nodup {l : List ByteArray} (h : SortedL l) : (l.map ByteArray.toList).Nodup := by
 unfold List.Nodup
 rw [List.pairwise_map]
 exact h.imp fun {a b} h he => by rw [he] at h; exact List.lt_irrefl _ h
theorem rfree_eq {T : Tm} (hok : okN T) : rfree T = freeL T := by
 have hs := rfree_sorted T
 have hp : (dd (frees (fun _ => false) T)).Perm ((rfree T).map ByteArray.toList) := by
  refine (List.perm_ext_iff_of_nodup (nodup_dd _) (sortedL_nodup hs)).2 fun x => ?_
  rw [mem_dd, ← mem_rfree T x hok, List.mem_map]
 have h := freeL_perm hp (by
  rw [List.pairwise_map]
  exact hs.imp fun {a b} h => by simpa [leB] using List.le_of_lt h)
 rw [h, List.map_map]
 have e : bytesArr ∘ ByteArray.toList = id := funext bytesArr_toList
 rw [e, List.map_id]
mutual
theorem okF_of : ∀ (T : Tm) (d : Int), okM T → ((partsM d T).map (·.2)).all Tm.fits = true → okF T
 | .mk op n t ks ps, d, hm, h => by
  unfold partsM at h
  rw [List.map_cons, List.all_cons, Bool.and_eq_true] at h
  unfold okM at hm
  obtain ⟨h1, h2⟩ := h
  have hk := fits_okN h1
  unfold okF
  rw [show ((d, Tm.mk op n t ks ps).2) = Tm.mk op n t ks ps from rfl, fits_node, Bool.and_eq_true] at h1
  refine ⟨?_, ?_, fun p hp => ?_, okFs_of ks (d + 1) hm.2.2 h2⟩
  ·exact hk.1
  ·exact hk.2.2.1
  ·have hpb := List.all_eq_true.1 h1.2 p hp
   have hl := patB_len hpb
   rw [← refPatB_eq] at hpb
   unfold refPatB at hpb
   simp only [Bool.and_eq_true] at hpb
   exact ⟨hpb.1.2, by omega⟩
theorem okFs_of : ∀ (ts : List Tm) (d : Int), oksM ts → ((partssM d ts).map (·.2)).all Tm.fits = true → okFs ts
 | [], _, _, _ => by unfold okFs; trivial
 | t :: ts, d, hm, h => by
  unfold partssM at h
  rw [List.map_append, List.all_append, Bool.and_eq_true] at h
  unfold oksM at hm
  unfold okFs
  exact ⟨okF_of t d hm.1 h.1, okFs_of ts d hm.2 h.2⟩
end
theorem fS_out (bs os : List ByteArray) (y : ByteArray) (hl : os.length = bs.length) (h : inL bs y.toList = true) : ∃ p ∈ bs.zip os, p.1 = y ∧ fS (pushS bs os []) y = p.2 := by
 obtain ⟨p, h1, h2, h3⟩ := rnL_out bs os [] _ hl h
 exact ⟨p, h1, bytes_ext h2, bytes_ext (by rw [fS_list]; exact h3)⟩
theorem fS_none (bs os : List ByteArray) (y : ByteArray) (hl : os.length = bs.length) (h : inL bs y.toList = false) : fS (pushS bs os []) y = y := by
 rw [fS_skip bs os [] y hl h]; rfl
theorem updS_same (sc : Nat → Sc) (i : Nat) (s s' : Sc) : updS (updS sc i s) i s' = updS sc i s' := by
 funext j; unfold updS; split <;> rfl
theorem updS_at (sc : Nat → Sc) (i : Nat) (s : Sc) : updS sc i s i = s := by unfold updS; rw [if_pos rfl]
theorem stT_upd (T : Tm) (sc : Nat → Sc) (i : Nat) (s : Sc) (h : fS s = fS (sc i)) : stT T (updS sc i s) = stT T sc := by
 have hj : ∀ j, fS (updS sc i s j) = fS (sc j) := fun j => by
  unfold updS
  by_cases e : j = i
  ·subst e; rw [if_pos rfl, h]
  ·rw [if_neg e]
 unfold stT
 simp only [hj]
theorem fS_xx (bs os : List ByteArray) (x : ByteArray) (hl : os.length = bs.length) (hx : inL bs x.toList = false) : fS ((x, x) :: pushS bs os []) = fS (pushS bs os []) := by
 funext y
 rw [fS_cons]
 split
 ·rename_i e
  have : x = y := bytes_ext (by simpa using e)
  subst this
  rw [fS_none bs os x hl hx]
 ·rfl
theorem inL_snoc' (tk : List ByteArray) (s : ByteArray) : inL (tk ++ [s]) = fun k => inL tk k || k == s.toList := by
 funext k; rw [inL_append]; unfold inL; simp [BEq.comm]
section
variable {fr : List ByteArray} {FV : List UInt8 → Bool} {T : Tm}
theorem sbN_st (hR : okR1 T) (hFV : ∀ y, inL (standL T) y = true → FV y = true) (i : Nat) (hi : i < T.kids.length) : ∀ (xs pre outs tk : List ByteArray) (sg : NS) (sc : Nat → Sc) (c : Nat), boundL T i = pre ++ xs → ((boundL T i).map (·.toList)).Nodup → outs.length = pre.length → inL tk = sg.2 → sc i = pushS pre outs [] → (∀ p ∈ pre.zip outs, Cho fr FV p) → Fr FV sg (xs.length + c) →
  ∃ tk', sbN fr i xs (stT T sc, tk) = (stT T (updS sc i (pushS (boundL T i) (outs ++ (chL (chSome fr) sg xs).1) [])), tk') ∧ inL tk' = (chL (chSome fr) sg xs).2.2
 | [], pre, outs, tk, sg, sc, c, hb, _, hl, ht, hs, _, _ => by
  rw [List.append_nil] at hb
  refine ⟨tk, ?_, ?_⟩
  ·have e : (chL (chSome fr) sg []).1 = [] := rfl
   rw [e, List.append_nil, hb, stT_upd T sc i _ (by rw [hs])]
   rfl
  ·rw [ht]; rfl
 | x :: xs, pre, outs, tk, sg, sc, c, hb, hnd, hl, ht, hs, hcho, hfr => by
  rw [List.length_cons, show xs.length + 1 + c = xs.length + c + 1 by omega] at hfr
  have hxm : x ∈ boundL T i := by rw [hb]; simp
  have hxp : inL pre x.toList = false := by
   cases h : inL pre x.toList
   ·rfl
   ·obtain ⟨s, hs1, hs2⟩ := inL_mem h
    rw [hb, List.map_append, List.map_cons, List.nodup_append] at hnd
    exact absurd hs2 (hnd.2.2 s.toList (List.mem_map_of_mem (f := fun s : ByteArray => s.toList) hs1) x.toList List.mem_cons_self)
  have hb' : boundL T i = (pre ++ [x]) ++ xs := by rw [hb]; simp
  have hxst : FV x.toList = true := hFV _ (stand_bnd T i hi _ (mem_inL hxm))
  have hch : chL (chSome fr) sg (x :: xs) = ((chSome fr sg x).1 :: (chL (chSome fr) (chSome fr sg x).2 xs).1, (chL (chSome fr) (chSome fr sg x).2 xs).2) := rfl
  have hstep : sbN fr i (x :: xs) (stT T sc, tk) = sbN fr i xs (if hasB fr x = true then (rbM x (firstW (inL tk)) i (stT T sc), tk ++ [firstW (inL tk)]) else (stT T sc, tk)) := rfl
  have hlast : ∀ o : ByteArray, (updS sc i (pushS (pre ++ [x]) (outs ++ [o]) [])) i = pushS (pre ++ [x]) (outs ++ [o]) [] := fun o => updS_at _ _ _
  rw [hstep, hch]
  by_cases hx : hasB fr x = true
  ·have hx' : hasL fr x = true := by rw [hasL_inL]; exact hx
   obtain ⟨-, -, hf3, hf4⟩ := hfr.step x
   have e1 : chSome fr sg x = (firstW sg.2, (sg.1 + 1, fun k => sg.2 k || k == (firstW sg.2).toList)) := by unfold chSome; rw [if_pos hx']
   have hf5 : Fr FV (chSome fr sg x).2 (xs.length + c) := by rw [e1]; exact hf4
   rw [if_pos hx, e1, ht]
   rw [e1] at hf5
   have hval : ∀ y, fS (pushS pre outs []) y = y ∨ FV (fS (pushS pre outs []) y).toList = false := fun y => by
    cases hy : inL pre y.toList
    ·exact .inl (fS_none pre outs y hl hy)
    ·obtain ⟨p, hp1, hp2, hp3⟩ := fS_out pre outs y hl hy
     rw [hp3]
     rcases hcho p hp1 with ⟨h1, -⟩ | h1
     ·exact .inl (by rw [h1, hp2])
     ·exact .inr h1
   have h1 : ∀ y, oneN x (firstW sg.2) (fS (sc i) y) = fS ((x, firstW sg.2) :: sc i) y := fun y => by
    rw [hs, fS_cons]
    by_cases e : x.toList = y.toList
    ·have : x = y := bytes_ext e
     subst this
     rw [if_pos (by simp), fS_none pre outs x hl hxp]
     unfold oneN
     rw [if_pos (by simp)]
    ·rw [if_neg (by simpa using e)]
     unfold oneN
     rw [if_neg]
     intro h
     have h : (fS (pushS pre outs []) y).toList = x.toList := by simpa using h
     rcases hval y with h' | h'
     ·rw [h'] at h; exact e h.symm
     ·rw [h, hxst] at h'; cases h'
   have h2 : ∀ y, fS (sc i) y = y ∨ inL (standL T.kids[i]) (fS (sc i) y).toList = false := fun y => by
    rw [hs]
    rcases hval y with h' | h'
    ·exact .inl h'
    ·refine .inr ?_
     cases h : inL (standL T.kids[i]) (fS (pushS pre outs []) y).toList
     ·rfl
     ·rw [hFV _ (stand_kid T i hi _ h)] at h'; cases h'
   rw [rb_st T sc hR i hi x (firstW sg.2) hxm h1 h2, hs, ← pushS_snoc pre outs x (firstW sg.2) [] hl]
   obtain ⟨tk', g1, g2⟩ := sbN_st hR hFV i hi xs (pre ++ [x]) (outs ++ [firstW sg.2]) (tk ++ [firstW sg.2]) (sg.1 + 1, fun k => sg.2 k || k == (firstW sg.2).toList) (updS sc i (pushS (pre ++ [x]) (outs ++ [firstW sg.2]) [])) c hb' hnd (by simp [hl]) (by rw [inL_snoc', ht]) (hlast _) (fun p hp => by
    rw [List.zip_append hl.symm] at hp
    rcases List.mem_append.1 hp with hp | hp
    ·exact hcho p hp
    ·simp at hp; subst hp; exact .inr hf3) hf5
   refine ⟨tk', ?_, g2⟩
   rw [g1, updS_same, List.append_assoc]
   rfl
  ·have hx' : hasL fr x = false := by rw [hasL_inL]; simpa [hasB_inL] using hx
   have e1 : chSome fr sg x = (x, sg) := by unfold chSome; rw [if_neg (by rw [hx']; simp)]
   rw [if_neg hx, e1]
   have hsx : stT T (updS sc i (pushS (pre ++ [x]) (outs ++ [x]) [])) = stT T sc := stT_upd T sc i _ (by rw [pushS_snoc pre outs x x [] hl, fS_xx pre outs x hl hxp, hs])
   obtain ⟨tk', g1, g2⟩ := sbN_st hR hFV i hi xs (pre ++ [x]) (outs ++ [x]) tk sg (updS sc i (pushS (pre ++ [x]) (outs ++ [x]) [])) c hb' hnd (by simp [hl]) ht (hlast _) (fun p hp => by
    rw [List.zip_append hl.symm] at hp
    rcases List.mem_append.1 hp with hp | hp
    ·exact hcho p hp
    ·simp at hp; subst hp; exact .inl ⟨rfl, hx'⟩) (hfr.mono (by omega))
   rw [hsx] at g1
   refine ⟨tk', ?_, g2⟩
   rw [g1, updS_same, List.append_assoc]
   rfl
theorem bound_nd (hR : okR1 T) (i : Nat) : ((boundL T i).map (·.toList)).Nodup := by
 unfold boundL
 split
 ·simp
 ·split
  ·cases hq : T.pats[i - 1]? with
   | none => exact List.nodup_nil
   | some p => exact hR.2.2.2 p (List.mem_of_getElem? hq)
  ·exact List.nodup_nil
abbrev scF (fr : List ByteArray) (sg : NS) (T : Tm) (j : Nat) : Sc := pushS (boundL T j) (outC (chSome fr) sg [] T j) []
theorem sbI_st (hR : okR1 T) (hFV : ∀ y, inL (standL T) y = true → FV y = true) (sg : NS) : ∀ (n i c : Nat) (tk : List ByteArray), i + n = T.kids.length → inL tk = (scp (chSome fr) (boundL T) [] sg i).2.2 →
  (∀ j, j < T.kids.length → Fr FV (scp (chSome fr) (boundL T) [] sg j).2 ((boundL T j).length + c)) →
  (sbI fr n i (stT T (fun j => if j < i then scF fr sg T j else []), tk)).1 = stT T (fun j => if j < T.kids.length then scF fr sg T j else [])
 | 0, i, c, tk, hn, _, _ => by
  obtain rfl : i = T.kids.length := by omega
  rfl
 | n + 1, i, c, tk, hn, ht, hfr => by
  have hi : i < T.kids.length := by omega
  have hb := boundT T (fun j => if j < i then scF fr sg T j else []) hR.2.2.1 i hi (if_neg (by omega))
  have e : sbI fr (n + 1) i (stT T (fun j => if j < i then scF fr sg T j else []), tk) = sbI fr n (i + 1) (sbN fr i (boundL (stT T (fun j => if j < i then scF fr sg T j else [])) i) (stT T (fun j => if j < i then scF fr sg T j else []), tk)) := rfl
  rw [e, hb]
  obtain ⟨tk', g1, g2⟩ := sbN_st hR hFV i hi (boundL T i) [] [] tk (scp (chSome fr) (boundL T) [] sg i).2 (fun j => if j < i then scF fr sg T j else []) c rfl (bound_nd hR i) rfl ht (if_neg (by omega)) (fun p hp => by simp at hp) (hfr i hi)
  rw [g1, List.nil_append]
  have e2 : updS (fun j => if j < i then scF fr sg T j else []) i (pushS (boundL T i) (chL (chSome fr) (scp (chSome fr) (boundL T) [] sg i).2 (boundL T i)).1 []) = fun j => if j < i + 1 then scF fr sg T j else [] := by
   funext j
   unfold updS
   by_cases e : j = i
   ·subst e; rw [if_pos rfl, if_pos (by omega)]
   ·rw [if_neg e]
    show (if j < i then scF fr sg T j else []) = _
    by_cases h : j < i
    ·rw [if_pos h, if_pos (by omega)]
    ·rw [if_neg h, if_neg (by omega)]
  rw [e2]
  exact sbI_st hR hFV sg n (i + 1) c tk' (by omega) g2 hfr
end
theorem inL_stK (bnd : Nat → List ByteArray) : ∀ (ks : List Tm) (i : Nat) (y : List UInt8), inL (stK bnd ks i) y = true ↔ ∃ j, ∃ h : j < ks.length, inL (bnd (i + j)) y = true ∨ inL (stP ks[j]) y = true
 | [], i, y => by unfold stK; simp [inL]
 | k :: ks, i, y => by
  have e : stK bnd (k :: ks) i = bnd i ++ stP k ++ stK bnd ks (i + 1) := by conv => lhs; unfold stK
  rw [e, inL_append, inL_append, Bool.or_eq_true, Bool.or_eq_true, inL_stK bnd ks (i + 1) y]
  constructor
  ·rintro ((h | h) | ⟨j, hj, h⟩)
   ·exact ⟨0, by simp, .inl (by simpa using h)⟩
   ·exact ⟨0, by simp, .inr (by simpa using h)⟩
   ·exact ⟨j + 1, by simpa using hj, by rw [show i + (j + 1) = i + 1 + j by omega]; simpa using h⟩
  ·rintro ⟨j, hj, h⟩
   cases j with
   | zero => exact .inl (by simpa using h)
   | succ j => exact .inr ⟨j, by simpa using hj, by rw [show i + 1 + j = i + (j + 1) by omega]; simpa using h⟩
theorem bndL_inv (T : Tm) (x : List UInt8) : ∀ (n : Nat), inL (bndL T n) x = true → ∃ i, i < n ∧ inL (boundL T i) x = true
 | 0, h => by unfold bndL at h; simp [inL] at h
 | n + 1, h => by
  unfold bndL at h
  rw [inL_append, Bool.or_eq_true] at h
  rcases h with h | h
  ·obtain ⟨i, hi, h'⟩ := bndL_inv T x n h
   exact ⟨i, by omega, h'⟩
  ·exact ⟨n, by omega, h⟩
theorem stand_inv (T : Tm) (x : List UInt8) (h : inL (standL T) x = true) : (T.op = 4 ∧ T.text.toList = x) ∨ ∃ i, ∃ h : i < T.kids.length, inL (boundL T i) x = true ∨ inL (standL T.kids[i]) x = true := by
 obtain ⟨t, ht, hx⟩ := inL_standLs' x _ h
 obtain ⟨y, hy, rfl⟩ := List.mem_map.1 ht
 rw [partsM_eq] at hy
 rcases List.mem_cons.1 hy with rfl | hy
 ·unfold standN at hx
  rw [inL_append, Bool.or_eq_true] at hx
  rcases hx with hx | hx
  ·change inL (if T.op = 4 then [T.text] else []) x = true at hx
   by_cases h4 : T.op = 4
   ·rw [if_pos h4] at hx
    exact .inl ⟨h4, by simpa [inL] using hx⟩
   ·rw [if_neg h4] at hx
    simp [inL] at hx
  ·obtain ⟨i, hi, h'⟩ := bndL_inv T x _ hx
   exact .inr ⟨i, hi, .inl h'⟩
 ·have hl : ∀ (ts : List Tm) (d : Int) (x : Int × Tm), x ∈ partssM d ts → ∃ j, ∃ h : j < ts.length, x ∈ partsM d ts[j] := by
   intro ts
   induction ts with
   | nil => intro d x h; unfold partssM at h; cases h
   | cons t ts ih2 =>
    intro d x h
    rw [partssM_cons] at h
    rcases List.mem_append.1 h with h | h
    ·exact ⟨0, by simp, h⟩
    ·obtain ⟨j, hj, h⟩ := ih2 d x h
     exact ⟨j + 1, by simpa using hj, by simpa using h⟩
  obtain ⟨j, hj, hyj⟩ := hl _ _ _ hy
  refine .inr ⟨j, hj, .inr ?_⟩
  have e : partsM (1 + 1) T.kids[j] = (partsM 1 T.kids[j]).map fun x => (x.1 + 1, x.2) := partsM_shf T.kids[j] 1 1
  rw [e] at hyj
  obtain ⟨z, hz, rfl⟩ := List.mem_map.1 hyj
  exact inL_standLs x _ z.2 (List.mem_map_of_mem (f := fun x : Int × Tm => x.2) hz) hx
theorem inL_st : ∀ (n : Nat) (T : Tm), heightM T ≤ n → ∀ x, inL (stP T) x = inL (standL T) x
 | 0, T, h, _ => by rw [height_eq] at h; omega
 | n + 1, T, h, x => by
  rw [height_eq] at h
  have hT : stP T = (if T.op = 4 then [T.text] else []) ++ stK (boundL T) T.kids 0 := by cases T; exact stP_mk _ _ _ _ _
  have key : inL (stP T) x = true ↔ inL (standL T) x = true := by
   rw [hT, inL_append, Bool.or_eq_true, inL_stK]
   constructor
   ·rintro (h1 | ⟨j, hj, h1 | h1⟩)
    ·by_cases h4 : T.op = 4
     ·rw [if_pos h4] at h1
      have : T.text.toList = x := by simpa [inL] using h1
      rw [← this]
      exact stand_op T h4
     ·rw [if_neg h4] at h1; simp [inL] at h1
    ·rw [Nat.zero_add] at h1
     exact stand_bnd T j hj x h1
    ·have := heightsM_get T.kids j hj
     rw [inL_st n T.kids[j] (by omega) x] at h1
     exact stand_kid T j hj x h1
   ·intro h1
    rcases stand_inv T x h1 with ⟨h4, h2⟩ | ⟨i, hi, h2 | h2⟩
    ·refine .inl ?_
     rw [if_pos h4]
     simp [inL, h2]
    ·exact .inr ⟨i, hi, .inl (by rw [Nat.zero_add]; exact h2)⟩
    ·have := heightsM_get T.kids i hi
     rw [← inL_st n T.kids[i] (by omega) x] at h2
     exact .inr ⟨i, hi, .inr h2⟩
  cases h1 : inL (stP T) x <;> cases h2 : inL (standL T) x <;> simp_all
theorem subR_eq (nm : ByteArray) (by' : Tm) (hbo : okN by') (hby : (freeL by').length ≤ 800000) : ∀ (f : Nat) (T : Tm), heightM T ≤ f → Sub T → okR T → subR nm by' f T = subF nm by' f T
 | 0, T, h, _, _ => by rw [height_eq] at h; omega
 | f + 1, T, h, hs, hR => by
  rw [height_eq] at h
  have hrf : hasB (rfree T) nm = hasL (freeL T) nm := by rw [rfree_eq hs.ren.ok, hasL_inL]; rfl
  by_cases hh : hasL (freeL T) nm = true
  case neg => rw [subF_free (by simpa using hh), subR_free (by rw [hrf]; simpa using hh)]
  by_cases h4 : T.op = 4
  ·rw [subF_name hh h4, subR_name (by rw [hrf]; exact hh) h4]
  have hfby : rfree by' = freeL by' := rfree_eq hbo
  have hfr0 : Fr (inL (freeL by' ++ [nm] ++ standL T)) ((freeL by' ++ [nm] ++ standL T).length, inL (freeL by' ++ [nm] ++ standL T)) (bndK (boundL T) T.kids.length + 0) := by
   refine ⟨fun _ h => h, freeL by' ++ [nm] ++ standL T, ?_, fun _ => rfl⟩
   have h1 := hs.stand
   have h2 := hs.bndK
   simp only [List.length_append, List.length_singleton]
   omega
  have hcho := (Fr.somes (fr := freeL by') (boundL T) [] _ T.kids.length 0 hfr0).1
  have hfrj : ∀ j, j < T.kids.length → Fr (inL (freeL by' ++ [nm] ++ standL T)) (scp (chSome (freeL by')) (boundL T) [] ((freeL by' ++ [nm] ++ standL T).length, inL (freeL by' ++ [nm] ++ standL T)) j).2 ((boundL T j).length + 0) := fun j hj => by
   have hle : ∀ n, j + 1 ≤ n → bndK (boundL T) (j + 1) ≤ bndK (boundL T) n := fun n hn => by
    induction n with
    | zero => omega
    | succ n ih =>
     by_cases e : j = n
     ·subst e; exact Nat.le_refl _
     ·have h9 := ih (by omega)
      have e9 : bndK (boundL T) (n + 1) = bndK (boundL T) n + (boundL T n).length := rfl
      omega
   have h1 : Fr (inL (freeL by' ++ [nm] ++ standL T)) ((freeL by' ++ [nm] ++ standL T).length, inL (freeL by' ++ [nm] ++ standL T)) (bndK (boundL T) j + ((boundL T j).length + 0)) := hfr0.mono (by
    have := hle T.kids.length (by omega)
    have e : bndK (boundL T) (j + 1) = bndK (boundL T) j + (boundL T j).length := rfl
    omega)
   exact (Fr.somes (fr := freeL by') (boundL T) [] _ j _ h1).2
  have hst0 : sbT (rfree by') nm T = stT T (fun j => if j < T.kids.length then scF (freeL by') ((freeL by' ++ [nm] ++ standL T).length, inL (freeL by' ++ [nm] ++ standL T)) T j else []) := by
   have h1 := sbI_st (fr := freeL by') hR.top (FV := inL (freeL by' ++ [nm] ++ standL T)) (fun y hy => by rw [inL_append, hy, Bool.or_true]) ((freeL by' ++ [nm] ++ standL T).length, inL (freeL by' ++ [nm] ++ standL T)) T.kids.length 0 0 (freeL by' ++ [nm] ++ stP T) (by omega) (by
    show inL _ = inL _
    funext y
    rw [inL_append, inL_append, inL_append, inL_append, inL_st _ T (Nat.le_refl _) y]) hfrj
   have e : (fun j => if j < 0 then scF (freeL by') ((freeL by' ++ [nm] ++ standL T).length, inL (freeL by' ++ [nm] ++ standL T)) T j else []) = fun _ => [] := by funext j; rw [if_neg (by omega)]
   rw [e, stT_nil] at h1
   unfold sbT
   rw [hfby]
   exact h1
  have hsc : ∀ i, i < T.kids.length → (scs108 (freeL by') nm T).getD i [] = scF (freeL by') ((freeL by' ++ [nm] ++ standL T).length, inL (freeL by' ++ [nm] ++ standL T)) T i := fun i hi => scp_getD _ _ _ _ _ i hi
  have hol := fun i => outC_len (chSome (freeL by')) ((freeL by' ++ [nm] ++ standL T).length, inL (freeL by' ++ [nm] ++ standL T)) [] T i
  have hsh := okS_top hs.ren.sh
  have hp := hR.top.2.2.2
  have hbn := fun ks i hi => bound_node (chSome (freeL by')) ((freeL by' ++ [nm] ++ standL T).length, inL (freeL by' ++ [nm] ++ standL T)) [] T ks hsh hp i hi
  have hreb : scs108 (freeL by') nm T = (scp (chSome (freeL by')) (boundL T) [] ((freeL by' ++ [nm] ++ standL T).length, inL (freeL by' ++ [nm] ++ standL T)) T.kids.length).1 := rfl
  change ∀ i, i < T.kids.length → ∀ p ∈ (boundL T i).zip (outC (chSome (freeL by')) ((freeL by' ++ [nm] ++ standL T).length, inL (freeL by' ++ [nm] ++ standL T)) [] T i), Cho _ _ p at hcho
  have hlen : (stT T (fun j => if j < T.kids.length then scF (freeL by') ((freeL by' ++ [nm] ++ standL T).length, inL (freeL by' ++ [nm] ++ standL T)) T j else [])).kids.length = T.kids.length := by
   show ((List.range T.kids.length).map _).length = _
   simp
  rw [subF_node hh h4, subR_node (by rw [hrf]; exact hh) h4 hst0 hlen, hlen]
  generalize hsg : ((freeL by' ++ [nm] ++ standL T).length, inL (freeL by' ++ [nm] ++ standL T)) = sg at *
  -- the names' text and the patterns
  have htext : (stT T (fun j => if j < T.kids.length then scF (freeL by') sg T j else [])).text = rebText T (scs108 (freeL by') nm T) := by
   show (if T.op = 5 ∨ T.op = 27 then fS (if 0 < T.kids.length then scF (freeL by') sg T 0 else []) T.text else if T.op = 7 then fS (if 1 < T.kids.length then scF (freeL by') sg T 1 else []) T.text else T.text) = _
   have one : ∀ i, i < T.kids.length → boundL T i = [T.text] → fS (scF (freeL by') sg T i) T.text = asOf (scF (freeL by') sg T i) := fun i hi hb => by
    have h1 := hol i
    unfold scF
    generalize outC (chSome (freeL by')) sg [] T i = os at *
    rw [hb] at h1 ⊢
    match os, h1 with
    | [o], _ =>
     show fS [(T.text, o)] T.text = o
     rw [fS_cons, if_pos (by simp)]
   unfold rebText
   by_cases h5 : T.op = 5 ∨ T.op = 27
   ·have hk := hsh.1 h5
    rw [if_pos h5, if_pos (by omega), if_pos (by omega), one 0 (by omega) (by unfold boundL; rw [if_pos (by omega)]), hk, hsc 0 (by omega)]
   ·by_cases h7 : T.op = 7
    ·have hk := hsh.2.1 h7
     rw [if_neg h5, if_pos h7, if_pos (by omega), if_pos (by omega), one 1 (by omega) (by unfold boundL; rw [if_pos (by omega)]), hk, hsc 1 (by omega)]
    ·rw [if_neg h5, if_neg h7, if_neg (by omega)]
  have hpats : (stT T (fun j => if j < T.kids.length then scF (freeL by') sg T j else [])).pats = rebPats T (scs108 (freeL by') nm T) := by
   show (if T.op = 15 then (List.range T.pats.length).map fun i => rnF (fS (if i + 1 < T.kids.length then scF (freeL by') sg T (i + 1) else [])) (T.pats.getD i default) else T.pats) = _
   unfold rebPats
   by_cases h15 : T.op = 15
   ·rw [if_pos h15, if_pos h15]
    refine List.map_congr_left fun i hi => ?_
    have hi' : i + 1 < T.kids.length := by have := List.mem_range.1 hi; have := hsh.2.2 h15; omega
    rw [if_pos hi', renP_F, hsc _ hi']
   ·rw [if_neg h15, if_neg h15]
    exact hR.top.2.1 h15
  have hbS : ∀ i, i < T.kids.length → boundL (stT T (fun j => if j < T.kids.length then scF (freeL by') sg T j else [])) i = outC (chSome (freeL by')) sg [] T i := fun i hi => by
   have e : boundL (stT T (fun j => if j < T.kids.length then scF (freeL by') sg T j else [])) i = boundL (nodeC (chSome (freeL by')) sg [] T []) i := by
    have e1 : (nodeC (chSome (freeL by')) sg [] T []).text = (stT T (fun j => if j < T.kids.length then scF (freeL by') sg T j else [])).text := by
     rw [htext]
     show (if T.op = 4 then _ else _) = _
     rw [if_neg h4, hreb]
    have e2 : (nodeC (chSome (freeL by')) sg [] T []).pats = (stT T (fun j => if j < T.kids.length then scF (freeL by') sg T j else [])).pats := by rw [hpats, hreb]; rfl
    unfold boundL
    rw [e1, e2]
    rfl
   rw [e, hbn [] i hi]
  -- what is known of the names that are chosen
  have hFV : ∀ o : ByteArray, inL (freeL by' ++ [nm] ++ standL T) o.toList = false → o.toList ≠ nm.toList ∧ inL (standL T) o.toList = false := fun o ho => by
   rw [inL_append, inL_append, Bool.or_eq_false_iff, Bool.or_eq_false_iff] at ho
   refine ⟨fun e => ?_, ho.2⟩
   have := ho.1.2
   rw [e] at this
   simp [inL] at this
  show Tm.mk T.op T.n _ _ _ = _
  rw [htext, hpats]
  congr 1
  refine List.map_congr_left fun i hi => ?_
  have hi := List.mem_range.1 hi
  have hg : T.kids.getD i default = T.kids[i] := by rw [List.getD_eq_getElem?_getD, List.getElem?_eq_getElem hi]; rfl
  have hKS : (stT T (fun j => if j < T.kids.length then scF (freeL by') sg T j else [])).kids.getD i default = rnS (fS (scF (freeL by') sg T i)) T.kids[i] := by
   show ((List.range T.kids.length).map fun i => rnS (fS (if i < T.kids.length then scF (freeL by') sg T i else [])) (T.kids.getD i default)).getD i default = _
   rw [List.getD_eq_getElem?_getD, List.getElem?_map, List.getElem?_range hi]
   show rnS (fS (if i < T.kids.length then scF (freeL by') sg T i else [])) (T.kids.getD i default) = _
   rw [if_pos hi, hg]
  have hRk := hR.kid i hi
  have hKF : (renM chSame (0, fun _ => false) ((scs108 (freeL by') nm T).getD i []) (T.kids.getD i default)).1 = rnS (fS (scF (freeL by') sg T i)) T.kids[i] := by
   rw [hg, hsc i hi, same_S T.kids[i] 1 _ _ hRk]
  have hsk := hs.kid i hi
  have hSub : Sub (rnS (fS (scF (freeL by') sg T i)) T.kids[i]) := by rw [← hKF, hg]; exact hsk.renM
  have hht : heightM (rnS (fS (scF (freeL by') sg T i)) T.kids[i]) ≤ f := by
   rw [← hKF, hg]
   have := (ren_keeps chSame T.kids[i] (0, fun _ => false) ((scs108 (freeL by') nm T).getD i []) hsk.ren.ok hsk.ren.sh hsk.nb).2.1
   have := heightsM_get T.kids i hi
   omega
  have hndk : NdP 1 T.kids[i] := fun y hy => (hRk y hy).2.2.2
  have hfv : ∀ x, FVs (rnS (fS (scF (freeL by') sg T i)) T.kids[i]) x ↔ ∃ y, FVs T.kids[i] y ∧ rnL (scF (freeL by') sg T i) y = x := by
   rw [← hKF, hg, hsc i hi]
   refine (same_M T.kids[i] 1 (0, fun _ => false) (scF (freeL by') sg T i) hsk.ren.sh hndk fun y => ?_).2.2
   cases hb : inL (boundL T i) y
   ·exact .inl (rnL_skip _ _ _ _ (hol i) hb)
   ·obtain ⟨p, hp1, hp2, hp3⟩ := rnL_out _ _ [] y (hol i) hb
    rw [hp3]
    rcases hcho i hi p hp1 with ⟨h1, -⟩ | h1
    ·exact .inl (by rw [h1]; exact hp2)
    ·refine .inr ?_
     cases hs2 : inL (standL T.kids[i]) p.2.toList
     ·rfl
     ·have := (hFV p.2 h1).2
      rw [stand_kid T i hi _ hs2] at this; cases this
  have hRK : okR (rnS (fS (scF (freeL by') sg T i)) T.kids[i]) := okR1_rn _ _ 1 hRk
  have ih := subR_eq nm by' hbo hby f _ hht hSub hRK
  unfold sbK kidF
  rw [hbS i hi, hKS, hKF, hsc i hi, find_bnd _ _ _ (hol i), hasB_inL]
  generalize hK : rnS (fS (scF (freeL by') sg T i)) T.kids[i] = K at *
  cases hb : inL (boundL T i) nm.toList with
  | true =>
   rw [if_pos rfl]
   cases ho : inL (outC (chSome (freeL by')) sg [] T i) nm.toList with
   | true => rw [if_pos rfl]
   | false =>
    rw [if_neg (by simp)]
    have hno : ¬ FVs K nm.toList := fun hx => by
     obtain ⟨y, -, hy2⟩ := (hfv _).1 hx
     cases hby' : inL (boundL T i) y
     ·have e : rnL (scF (freeL by') sg T i) y = y := rnL_skip _ _ [] y (hol i) hby'
      rw [e] at hy2
      rw [hy2, hb] at hby'; cases hby'
     ·obtain ⟨p, hp1, hp2, hp3⟩ := rnL_out _ _ [] y (hol i) hby'
      have e : rnL (scF (freeL by') sg T i) y = p.2.toList := hp3
      rw [e] at hy2
      rw [← hy2, mem_inL (List.of_mem_zip hp1).2] at ho
      cases ho
    cases f with
    | zero => rfl
    | succ f =>
     refine subR_free ?_
     rw [rfree_eq hSub.ren.ok]
     cases hx : hasB (freeL K) nm
     ·rfl
     ·exact absurd ((mem_freeL K _).1 hx) hno
  | false =>
   cases ho : inL (outC (chSome (freeL by')) sg [] T i) nm.toList with
   | false => rw [if_neg (by simp), if_neg (by simp)]; exact ih
   | true =>
    exfalso
    obtain ⟨o, ho1, ho2⟩ := inL_mem ho
    obtain ⟨b, hb2⟩ := zip_mem_right _ _ o (hol i) ho1
    rcases hcho i hi _ hb2 with ⟨h1, -⟩ | h1
    ·simp only at h1
     subst h1
     have := mem_inL (List.of_mem_zip hb2).1
     rw [ho2, hb] at this; cases this
    ·exact (hFV o h1).1 ho2
end Go.Proofs.YtjpahjfjpkbcnaaGreat
namespace Go.Proofs.YtjpahjfjpkbcnaaGreat
open Go.Proofs Go.RowKit
def zeroM : Tm := .mk 0 0 ⟨#[]⟩ [] []
theorem zeroM_at (n₀ : Nat) (w : World) : TmAt n₀ w zeroM (.agg #[.int .i64 0, .int .i64 0, .string ⟨#[]⟩, .slice none 0 0, .slice none 0 0]) := by
 unfold zeroM TmAt
 exact ⟨_, _, rfl, Nat.zero_le _, .inl ⟨rfl, none, 0, rfl, Nat.zero_le _⟩, .inl ⟨rfl, none, 0, rfl, Nat.zero_le _⟩⟩
set_option maxHeartbeats 1000000 in
theorem none_any (p : Tm) (v : Value) (w : World) (hv : TmAt w.heap.size w p v) :
  Calls Tryz.prog 41 #[v] w fun e w' => e = .returned (.bool (eqM p zeroM)) ∧ Below w.heap.size w w' := by
 obtain ⟨a, cap, a', cap', rfl, -⟩ := hv.parts
 have hb0 := (Below.refl w.heap.size w).alloc (Nat.le_refl _) (.cells #[.int .i64 p.op, .int .i64 p.n, .string p.text, .slice a p.kids.length cap, .slice a' p.pats.length cap'] 32)
 have hbx := heap_alloc_new w (.cells #[.int .i64 p.op, .int .i64 p.n, .string p.text, .slice a p.kids.length cap, .slice a' p.pats.length cap'] 32)
 have HC := lh (Same_any p zeroM _ _ _ (TmAt.keep hb0 hb0.size _ _ hv) (zeroM_at _ _))
 have HB := lh hb0
 obtain ⟨c0, c1, c2, c3, c4⟩ := cells5 hbx
 clear hv hb0 hbx
 go_enter Tryz.func41, Tryz.ntmps41
 go_wp2_with fail
 refine HC.out.mono ?_
 rintro e w1 ⟨rfl, hb1⟩
 go_wp2
 go_ret
 exact ⟨rfl, HB.out.trans (hb1.mono HB.out.size)⟩
end Go.Proofs.YtjpahjfjpkbcnaaGreat
