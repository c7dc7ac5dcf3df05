/- Contracts of the program's functions. -/
import Derived.Test.YtjpahjfjpkbcnaaGreatS09
import Derived.Test.YtjpahjfjpkbcnaaGreatS11
import Derived.Test.YtjpahjfjpkbcnaaGreatS10
import Derived.Test.YtjpahjfjpkbcnaaGreatS12

namespace Go.Proofs.YtjpahjfjpkbcnaaGreat
open Go.Proofs Go.RowKit
theorem bytes_ext {a b : ByteArray} (h : a.toList = b.toList) : a = b := by
 rw [ByteArray.toList_eq, ByteArray.toList_eq] at h
 have := Array.toList_inj.1 h
 cases a; cases b
 simp_all
theorem pushS_cons (n o : ByteArray) (ns outs : List ByteArray) (sc : Sc) : pushS (n :: ns) (o :: outs) sc = pushS ns outs ((n, o) :: sc) := by
 unfold pushS
 simp
theorem find_skip : ∀ (ns outs : List ByteArray) (sc : Sc) (k : ByteArray), outs.length = ns.length → (∀ n ∈ ns, n.toList ≠ k.toList) → findS (pushS ns outs sc) k = findS sc k
 | [], [], _, _, _, _ => rfl
 | n :: ns, o :: outs, sc, k, hl, h => by
  rw [pushS_cons, find_skip ns outs _ k (by simpa using hl) fun m hm => h m (List.mem_cons_of_mem _ hm)]
  have := h n List.mem_cons_self
  conv => lhs; unfold findS
  rw [if_neg (by simpa using this)]
theorem find_push : ∀ (ns outs : List ByteArray) (sc : Sc), outs.length = ns.length → (ns.map (·.toList)).Nodup → ns.map (fun t => (findS (pushS ns outs sc) t).getD t) = outs
 | [], [], _, _, _ => rfl
 | n :: ns, o :: outs, sc, hl, h => by
  rw [List.map_cons, List.nodup_cons] at h
  rw [pushS_cons, List.map_cons, find_push ns outs _ (by simpa using hl) h.2, find_skip ns outs _ n (by simpa using hl) fun m hm e => h.1 (by rw [← e]; exact List.mem_map_of_mem (f := fun s : ByteArray => s.toList) hm)]
  conv => lhs; unfold findS
  simp
theorem text_out (t : ByteArray) (os : List ByteArray) (sc : Sc) (h : os.length = 1) : [asOf (pushS [t] os sc)] = os := by
 match os, h with
 | [o], _ => rfl
theorem partsP_mk (f n : Int) (t : ByteArray) (ps : List Pt) (d : Int) : partsP d (.mk f n t ps) = (d, .mk f n t ps) :: partssP (d + 1) ps := by
 conv => lhs; unfold partsP
theorem renP_mk (sc : Sc) (f n : Int) (t : ByteArray) (ps : List Pt) : renP sc (.mk f n t ps) = .mk f n (if f = 2 then (findS sc t).getD t else t) (renPs sc ps) := by
 conv => lhs; unfold renP
mutual
theorem partsP_ren (sc : Sc) : ∀ (p : Pt) (d : Int), partsP d (renP sc p) = (partsP d p).map fun x => (x.1, renP sc x.2)
 | .mk f n t ps, d => by
  rw [partsP_mk, List.map_cons, ← partssP_ren sc ps (d + 1), renP_mk, partsP_mk]
theorem partssP_ren (sc : Sc) : ∀ (ps : List Pt) (d : Int), partssP d (renPs sc ps) = (partssP d ps).map fun x => (x.1, renP sc x.2)
 | [], _ => by unfold renPs partssP; rfl
 | p :: ps, d => by
  conv => lhs; unfold renPs partssP
  conv => rhs; unfold partssP
  rw [List.map_append, partsP_ren sc p d, partssP_ren sc ps d]
end
theorem renP_form (sc : Sc) (p : Pt) : (renP sc p).form = p.form := by cases p; unfold renP; rfl
theorem renP_text (sc : Sc) (p : Pt) : (renP sc p).text = if p.form = 2 then (findS sc p.text).getD p.text else p.text := by cases p; unfold renP; rfl
theorem namesL_ren (sc : Sc) : ∀ (ps : List Pt), namesL (ps.map (renP sc)) = (namesL ps).map fun t => (findS sc t).getD t
 | [] => rfl
 | p :: ps => by
  have ih := namesL_ren sc ps
  unfold namesL at ih ⊢
  rw [List.map_cons, List.filter_cons, List.filter_cons, renP_form]
  by_cases h : p.form = 2
  ·simp only [h, decide_true, if_true, List.map_cons]
   rw [ih, renP_text, if_pos h]
  ·simp only [h, decide_false, Bool.false_eq_true, if_false]
   exact ih
theorem namesP_ren (sc : Sc) (p : Pt) : namesP (renP sc p) = (namesP p).map fun t => (findS sc t).getD t := by
 unfold namesP
 rw [partsP_ren, List.map_map, ← namesL_ren, List.map_map]
 rfl
theorem diffM_nodup : ∀ (ss : List ByteArray) (met : List UInt8 → Bool), diffM met ss = true ↔ (∀ s ∈ ss, met s.toList = false) ∧ (ss.map (·.toList)).Nodup
 | [], _ => by simp [diffM]
 | s :: ss, met => by
  rw [diffM_cons, Bool.and_eq_true, diffM_nodup ss, List.map_cons, List.nodup_cons]
  simp only [Bool.not_eq_true', Bool.or_eq_false_iff, List.mem_cons, List.mem_map, not_exists, not_and, beq_eq_false_iff_ne]
  constructor
  ·rintro ⟨h1, h2, h3⟩
   exact ⟨fun x hx => hx.elim (fun e => e ▸ h1) fun hx => (h2 x hx).1, fun x hx e => (h2 x hx).2 e, h3⟩
  ·rintro ⟨h1, h2, h3⟩
   exact ⟨h1 s (.inl rfl), fun x hx => ⟨h1 x (.inr hx), fun e => h2 x hx e⟩, h3⟩
theorem patB_iff (p : Pt) : patB p = true ↔ (partsP 1 p).length ≤ 12 ∧ (∀ q ∈ (partsP 1 p).map (·.2), q.fits = true) ∧ ((namesP p).map (·.toList)).Nodup := by
 unfold patB
 rw [goP_eq _ 0 _ (by omega), Bool.and_eq_true, Bool.and_eq_true, decide_eq_true_iff, List.all_eq_true, diffM_nodup]
 unfold namesP
 simp only [List.length_map, Nat.zero_add]
 constructor
 ·rintro ⟨⟨h1, h2⟩, -, h3⟩; exact ⟨h1, h2, h3⟩
 ·rintro ⟨h1, h2, h3⟩; exact ⟨⟨h1, h2⟩, by simp, h3⟩
theorem scp_getD (ch : Ch) (bnd : Nat → List ByteArray) (sc : Sc) (σ : NS) (n i : Nat) (h : i < n) : (scp ch bnd sc σ n).1.getD i [] = pushS (bnd i) (chL ch (scp ch bnd sc σ i).2 (bnd i)).1 sc := by
 rw [List.getD_eq_getElem?_getD, List.getElem?_eq_getElem (by rw [scp_len]; exact h), Option.getD_some, scp_get ch bnd sc σ n i h]
theorem renM_op (ch : Ch) (σ : NS) (sc : Sc) (T : Tm) : (renM ch σ sc T).1.op = T.op := by rw [renM_eq]; rfl
theorem renM_text (ch : Ch) (σ : NS) (sc : Sc) (T : Tm) : (renM ch σ sc T).1.text = if T.op = 4 then (findS sc T.text).getD T.text else rebText T (scp ch (boundL T) sc σ T.kids.length).1 := by rw [renM_eq]; rfl
theorem renM_pats (ch : Ch) (σ : NS) (sc : Sc) (T : Tm) : (renM ch σ sc T).1.pats = rebPats T (scp ch (boundL T) sc σ T.kids.length).1 := by rw [renM_eq]; rfl
theorem rebPats_at (T : Tm) (scs : List Sc) (h : T.op = 15) (i : Nat) : (rebPats T scs)[i]? = T.pats[i]?.map (renP (scs.getD (i + 1) [])) := by
 unfold rebPats
 rw [if_pos h, List.getElem?_map]
 by_cases hi : i < T.pats.length
 ·rw [List.getElem?_range hi, List.getElem?_eq_getElem hi]
  simp [List.getD_eq_getElem?_getD, List.getElem?_eq_getElem hi]
 ·rw [List.getElem?_eq_none (by simpa using hi), List.getElem?_eq_none (by omega)]
  rfl
theorem rebPats_no {T : Tm} {scs : List Sc} (h : T.op ≠ 15) : rebPats T scs = [] := by unfold rebPats; rw [if_neg h]
def Fr (FV : List UInt8 → Bool) (σ : NS) (c : Nat) : Prop := (∀ x, FV x = true → σ.2 x = true) ∧ ∃ l : List ByteArray, l.length + c ≤ 1000000000 ∧ ∀ x, σ.2 x = inL l x
theorem Fr.step {FV : List UInt8 → Bool} {σ : NS} {c : Nat} (h : Fr FV σ (c + 1)) (s : ByteArray) : nameB (firstW σ.2) = true ∧ σ.2 (firstW σ.2).toList = false ∧ FV (firstW σ.2).toList = false ∧ Fr FV (chNew σ s).2 c := by
 obtain ⟨h1, l, h2, h3⟩ := h
 have he : σ.2 = inL l := funext h3
 obtain ⟨N, -, h4, h5, -⟩ := first_is σ.2 (by rw [he]; exact exists_fresh l (by omega))
 rw [h4] at h5
 unfold freshB at h5
 rw [Bool.and_eq_true, Bool.not_eq_true'] at h5
 refine ⟨h5.1, h5.2, ?_, fun x hx => ?_, l ++ [firstW σ.2], by rw [List.length_append, List.length_singleton]; omega, fun x => ?_⟩
 ·cases hf : FV (firstW σ.2).toList
  ·rfl
  ·rw [h1 _ hf] at h5; simp at h5
 ·show (σ.2 x || _) = true
  rw [h1 x hx]; rfl
 ·show (σ.2 x || x == (firstW σ.2).toList) = _
  rw [inL_snoc, h3]
def GS (FV : List UInt8 → Bool) (sc : Sc) : Prop := ∀ p ∈ sc, nameB p.2 = true ∧ FV p.2.toList = false
theorem GS.name {FV : List UInt8 → Bool} : ∀ {sc : Sc}, GS FV sc → ∀ t : ByteArray, nameB t = true → nameB ((findS sc t).getD t) = true
 | [], _, _, h => h
 | (n, s) :: sc, h, t, ht => by
  unfold findS
  split
  ·exact (h (n, s) List.mem_cons_self).1
  ·exact GS.name (fun p hp => h p (List.mem_cons_of_mem _ hp)) t ht
theorem freesK_cons (bd : List UInt8 → Bool) (bnd : Nat → List ByteArray) (k : Tm) (ks : List Tm) (i : Nat) : freesK bd bnd (k :: ks) i = frees (fun x => bd x || (bnd i).any fun s => s.toList == x) k ++ freesK bd bnd ks (i + 1) := by
 conv => lhs; unfold freesK
theorem renK_cons (ch : Ch) (σ : NS) (scs : List Sc) (k : Tm) (ks : List Tm) : renK ch σ scs (k :: ks) = ((renM ch σ (scs.headD []) k).1 :: (renK ch (renM ch σ (scs.headD []) k).2 scs.tail ks).1, (renK ch (renM ch σ (scs.headD []) k).2 scs.tail ks).2) := by
 conv => lhs; unfold renK
theorem partsM_eq (T : Tm) (d : Int) : partsM d T = (d, T) :: partssM (d + 1) T.kids := by
 cases T
 conv => lhs; unfold partsM
 rfl
theorem partssM_cons (t : Tm) (ts : List Tm) (d : Int) : partssM d (t :: ts) = partsM d t ++ partssM d ts := by conv => lhs; unfold partssM
theorem inL_freeL (T : Tm) (x : List UInt8) (h : x ∈ frees (fun _ => false) T) : inL (freeL T) x = true := by
 unfold inL freeL
 rw [List.any_eq_true]
 refine ⟨bytesArr x, List.mem_map_of_mem (List.mem_mergeSort.2 ((mem_dd _ _).2 h)), ?_⟩
 have : (bytesArr x).toList = x := by rw [ByteArray.toList_eq]; unfold bytesArr; simp
 rw [this]; simp
end Go.Proofs.YtjpahjfjpkbcnaaGreat
