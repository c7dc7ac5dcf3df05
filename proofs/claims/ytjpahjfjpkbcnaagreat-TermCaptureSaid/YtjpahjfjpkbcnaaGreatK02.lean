/- Contracts of the program's functions. -/
import Derived.Test.YtjpahjfjpkbcnaaGreatG09
import Derived.Test.YtjpahjfjpkbcnaaGreatG11
import Derived.Test.YtjpahjfjpkbcnaaGreatG10
import Derived.Test.YtjpahjfjpkbcnaaGreatK01

/- Bound names that are chosen anew, once more: what was chosen stays. -/
namespace Go.Proofs.YtjpahjfjpkbcnaaGreat
open Go.Proofs Go.RowKit

/-! ### scopes -/
theorem bytes_ext {a b : ByteArray} (h : a.toList = b.toList) : a = b := by
  rw [ByteArray.toList_eq, ByteArray.toList_eq] at h
  have := Array.toList_inj.1 h
  cases a; cases b
  simp_all
/-- A scope in which each name means itself. -/
def Idn (sc : Sc) : Prop := ∀ p ∈ sc, p.1 = p.2
theorem Idn.find {sc : Sc} (h : Idn sc) (k : ByteArray) : (findS sc k).getD k = k := by
  induction sc with
  | nil => rfl
  | cons p sc ih =>
    obtain ⟨n, s⟩ := p
    unfold findS
    split
    · rename_i he
      have h1 : n = s := h (n, s) List.mem_cons_self
      have h2 : n = k := bytes_ext (by simpa using he)
      show s = k
      rw [← h1, h2]
    · exact ih fun p hp => h p (List.mem_cons_of_mem _ hp)
theorem pushS_cons (n o : ByteArray) (ns outs : List ByteArray) (sc : Sc) : pushS (n :: ns) (o :: outs) sc = pushS ns outs ((n, o) :: sc) := by
  unfold pushS
  simp
theorem Idn.push : ∀ (outs : List ByteArray) (sc : Sc), Idn sc → Idn (pushS outs outs sc)
  | [], _, h => h
  | o :: outs, sc, h => by
    rw [pushS_cons]
    exact Idn.push outs _ fun p hp => by
      rcases List.mem_cons.1 hp with rfl | hp
      · rfl
      · exact h p hp
mutual
theorem renP_id {sc : Sc} (h : Idn sc) : ∀ p : Pt, renP sc p = p
  | .mk f n t ps => by unfold renP; rw [h.find, renPs_id h ps]; simp
theorem renPs_id {sc : Sc} (h : Idn sc) : ∀ ps : List Pt, renPs sc ps = ps
  | [] => by unfold renPs; rfl
  | p :: ps => by unfold renPs; rw [renP_id h p, renPs_id h ps]
end
theorem find_skip : ∀ (ns outs : List ByteArray) (sc : Sc) (k : ByteArray), outs.length = ns.length → (∀ n ∈ ns, n.toList ≠ k.toList) → findS (pushS ns outs sc) k = findS sc k
  | [], [], _, _, _, _ => rfl
  | n :: ns, o :: outs, sc, k, hl, h => by
    rw [pushS_cons, find_skip ns outs _ k (by simpa using hl) fun m hm => h m (List.mem_cons_of_mem _ hm)]
    have := h n List.mem_cons_self
    conv => lhs; unfold findS
    rw [if_neg (by simpa using this)]
theorem find_push : ∀ (ns outs : List ByteArray) (sc : Sc), outs.length = ns.length → (ns.map (·.toList)).Nodup → ns.map (fun t => (findS (pushS ns outs sc) t).getD t) = outs
  | [], [], _, _, _ => rfl
  | n :: ns, o :: outs, sc, hl, h => by
    rw [List.map_cons, List.nodup_cons] at h
    rw [pushS_cons, List.map_cons, find_push ns outs _ (by simpa using hl) h.2, find_skip ns outs _ n (by simpa using hl) fun m hm e => h.1 (by rw [← e]; exact List.mem_map_of_mem (f := fun s : ByteArray => s.toList) hm)]
    conv => lhs; unfold findS
    simp
theorem text_out (t : ByteArray) (os : List ByteArray) (sc : Sc) (h : os.length = 1) : [asOf (pushS [t] os sc)] = os := by
  match os, h with
  | [o], _ => rfl

/-! ### patterns -/
theorem partsP_mk (f n : Int) (t : ByteArray) (ps : List Pt) (d : Int) : partsP d (.mk f n t ps) = (d, .mk f n t ps) :: partssP (d + 1) ps := by
  conv => lhs; unfold partsP
theorem renP_mk (sc : Sc) (f n : Int) (t : ByteArray) (ps : List Pt) : renP sc (.mk f n t ps) = .mk f n (if f = 2 then (findS sc t).getD t else t) (renPs sc ps) := by
  conv => lhs; unfold renP
mutual
theorem partsP_ren (sc : Sc) : ∀ (p : Pt) (d : Int), partsP d (renP sc p) = (partsP d p).map fun x => (x.1, renP sc x.2)
  | .mk f n t ps, d => by
    rw [partsP_mk, List.map_cons, ← partssP_ren sc ps (d + 1), renP_mk, partsP_mk]
theorem partssP_ren (sc : Sc) : ∀ (ps : List Pt) (d : Int), partssP d (renPs sc ps) = (partssP d ps).map fun x => (x.1, renP sc x.2)
  | [], _ => by unfold renPs partssP; rfl
  | p :: ps, d => by
    conv => lhs; unfold renPs partssP
    conv => rhs; unfold partssP
    rw [List.map_append, partsP_ren sc p d, partssP_ren sc ps d]
end
theorem renP_form (sc : Sc) (p : Pt) : (renP sc p).form = p.form := by cases p; unfold renP; rfl
theorem renP_text (sc : Sc) (p : Pt) : (renP sc p).text = if p.form = 2 then (findS sc p.text).getD p.text else p.text := by cases p; unfold renP; rfl
theorem namesL_ren (sc : Sc) : ∀ (ps : List Pt), namesL (ps.map (renP sc)) = (namesL ps).map fun t => (findS sc t).getD t
  | [] => rfl
  | p :: ps => by
    have ih := namesL_ren sc ps
    unfold namesL at ih ⊢
    rw [List.map_cons, List.filter_cons, List.filter_cons, renP_form]
    by_cases h : p.form = 2
    · simp only [h, decide_true, if_true, List.map_cons]
      rw [ih, renP_text, if_pos h]
    · simp only [h, decide_false, Bool.false_eq_true, if_false]
      exact ih
theorem namesP_ren (sc : Sc) (p : Pt) : namesP (renP sc p) = (namesP p).map fun t => (findS sc t).getD t := by
  unfold namesP
  rw [partsP_ren, List.map_map, ← namesL_ren, List.map_map]
  rfl
theorem diffM_nodup : ∀ (ss : List ByteArray) (met : List UInt8 → Bool), diffM met ss = true ↔ (∀ s ∈ ss, met s.toList = false) ∧ (ss.map (·.toList)).Nodup
  | [], _ => by simp [diffM]
  | s :: ss, met => by
    rw [diffM_cons, Bool.and_eq_true, diffM_nodup ss, List.map_cons, List.nodup_cons]
    simp only [Bool.not_eq_true', Bool.or_eq_false_iff, List.mem_cons, List.mem_map, not_exists, not_and, beq_eq_false_iff_ne]
    constructor
    · rintro ⟨h1, h2, h3⟩
      exact ⟨fun x hx => hx.elim (fun e => e ▸ h1) fun hx => (h2 x hx).1, fun x hx e => (h2 x hx).2 e, h3⟩
    · rintro ⟨h1, h2, h3⟩
      exact ⟨h1 s (.inl rfl), fun x hx => ⟨h1 x (.inr hx), fun e => h2 x hx e⟩, h3⟩
theorem patB_iff (p : Pt) : patB p = true ↔ (partsP 1 p).length ≤ 12 ∧ (∀ q ∈ (partsP 1 p).map (·.2), q.fits = true) ∧ ((namesP p).map (·.toList)).Nodup := by
  unfold patB
  rw [goP_eq _ 0 _ (by omega), Bool.and_eq_true, Bool.and_eq_true, decide_eq_true_iff, List.all_eq_true, diffM_nodup]
  unfold namesP
  simp only [List.length_map, Nat.zero_add]
  constructor
  · rintro ⟨⟨h1, h2⟩, -, h3⟩; exact ⟨h1, h2, h3⟩
  · rintro ⟨h1, h2, h3⟩; exact ⟨⟨h1, h2⟩, by simp, h3⟩

/-! ### what is chosen does not hang on what stood there -/
theorem chL_new : ∀ (ss ss' : List ByteArray) (σ : NS), ss.length = ss'.length → chL chNew σ ss = chL chNew σ ss'
  | [], [], _, _ => rfl
  | s :: ss, s' :: ss', σ, h => by
    have := chL_new ss ss' (chNew σ s').2 (by simpa using h)
    simp only [chL]
    rw [show chNew σ s = chNew σ s' from rfl, this]
theorem scp_new (bnd bnd' : Nat → List ByteArray) (sc sc' : Sc) (σ : NS) : ∀ n, (∀ i, i < n → (bnd i).length = (bnd' i).length) → (scp chNew bnd sc σ n).2 = (scp chNew bnd' sc' σ n).2
  | 0, _ => rfl
  | n + 1, h => by
    have ih := scp_new bnd bnd' sc sc' σ n fun i hi => h i (by omega)
    unfold scp
    simp only
    rw [ih, chL_new _ _ _ (h n (by omega))]
theorem scp_getD (ch : Ch) (bnd : Nat → List ByteArray) (sc : Sc) (σ : NS) (n i : Nat) (h : i < n) : (scp ch bnd sc σ n).1.getD i [] = pushS (bnd i) (chL ch (scp ch bnd sc σ i).2 (bnd i)).1 sc := by
  rw [List.getD_eq_getElem?_getD, List.getElem?_eq_getElem (by rw [scp_len]; exact h), Option.getD_some, scp_get ch bnd sc σ n i h]

/-- The names that are chosen for a Kid. -/
abbrev outL (σ : NS) (sc : Sc) (T : Tm) (i : Nat) : List ByteArray := (chL chNew (scp chNew (boundL T) sc σ i).2 (boundL T i)).1
theorem outL_len (σ : NS) (sc : Sc) (T : Tm) (i : Nat) : (outL σ sc T i).length = (boundL T i).length := chL_len _ _ _
theorem renM_op (ch : Ch) (σ : NS) (sc : Sc) (T : Tm) : (renM ch σ sc T).1.op = T.op := by rw [renM_eq]; rfl
theorem renM_text (ch : Ch) (σ : NS) (sc : Sc) (T : Tm) : (renM ch σ sc T).1.text = if T.op = 4 then (findS sc T.text).getD T.text else rebText T (scp ch (boundL T) sc σ T.kids.length).1 := by rw [renM_eq]; rfl
theorem renM_pats (ch : Ch) (σ : NS) (sc : Sc) (T : Tm) : (renM ch σ sc T).1.pats = rebPats T (scp ch (boundL T) sc σ T.kids.length).1 := by rw [renM_eq]; rfl
theorem renM_kids (ch : Ch) (σ : NS) (sc : Sc) (T : Tm) : (renM ch σ sc T).1.kids.length = T.kids.length := by rw [renM_eq]; exact renK_len _ _ _ _
theorem rebPats_at (T : Tm) (scs : List Sc) (h : T.op = 15) (i : Nat) : (rebPats T scs)[i]? = T.pats[i]?.map (renP (scs.getD (i + 1) [])) := by
  unfold rebPats
  rw [if_pos h, List.getElem?_map]
  by_cases hi : i < T.pats.length
  · rw [List.getElem?_range hi, List.getElem?_eq_getElem hi]
    simp [List.getD_eq_getElem?_getD, List.getElem?_eq_getElem hi]
  · rw [List.getElem?_eq_none (by simpa using hi), List.getElem?_eq_none (by omega)]
    rfl

theorem bound_rn (σ : NS) (sc : Sc) (T : Tm) (hf : T.fits = true) (i : Nat) (hi : i < T.kids.length) : boundL (renM chNew σ sc T).1 i = outL σ sc T i := by
  obtain ⟨-, s5, s7, s15⟩ := fits_shape hf
  have hp := (fits_pats hf).2
  have hol := outL_len σ sc T i
  have hsc := fun i h => scp_getD chNew (boundL T) sc σ T.kids.length i h
  by_cases h5 : T.op = 5 ∨ T.op = 27
  · have hk := s5 h5
    obtain rfl : i = 0 := by omega
    have hb : boundL T 0 = [T.text] := by unfold boundL; rw [if_pos (by omega)]
    have hb' : boundL (renM chNew σ sc T).1 0 = [(renM chNew σ sc T).1.text] := by unfold boundL; rw [renM_op, if_pos (by omega)]
    rw [hb', renM_text, if_neg (by omega)]
    unfold rebText
    rw [if_pos (by omega), hk, show 1 - 1 = 0 from rfl, ← hk, hsc 0 (by omega)]
    show [asOf (pushS (boundL T 0) (outL σ sc T 0) sc)] = outL σ sc T 0
    generalize outL σ sc T 0 = os at *
    rw [hb] at hol ⊢
    exact text_out _ _ _ hol
  by_cases h7 : T.op = 7
  · have hk := s7 h7
    by_cases h0 : i = 0
    · subst h0
      have hb : boundL T 0 = [] := by unfold boundL; rw [if_neg (by omega), if_neg (by omega)]
      have hb' : boundL (renM chNew σ sc T).1 0 = [] := by unfold boundL; rw [renM_op, if_neg (by omega), if_neg (by omega)]
      rw [hb'] ; rw [hb] at hol
      exact (List.eq_nil_of_length_eq_zero hol).symm
    · obtain rfl : i = 1 := by omega
      have hb : boundL T 1 = [T.text] := by unfold boundL; rw [if_pos (by omega)]
      have hb' : boundL (renM chNew σ sc T).1 1 = [(renM chNew σ sc T).1.text] := by unfold boundL; rw [renM_op, if_pos (by omega)]
      rw [hb', renM_text, if_neg (by omega)]
      unfold rebText
      rw [if_pos (by omega), hk, show 2 - 1 = 1 from rfl, ← hk, hsc 1 (by omega)]
      show [asOf (pushS (boundL T 1) (outL σ sc T 1) sc)] = outL σ sc T 1
      generalize outL σ sc T 1 = os at *
      rw [hb] at hol ⊢
      exact text_out _ _ _ hol
  by_cases h15 : T.op = 15 ∧ 0 < i
  · have hb : boundL T i = (T.pats[i - 1]?.map namesP).getD [] := by unfold boundL; rw [if_neg (by omega), if_pos h15]
    have hb' : boundL (renM chNew σ sc T).1 i = ((renM chNew σ sc T).1.pats[i - 1]?.map namesP).getD [] := by unfold boundL; rw [renM_op, if_neg (by omega), if_pos h15]
    rw [hb', renM_pats, rebPats_at _ _ h15.1, show i - 1 + 1 = i by omega, hsc i hi]
    cases hq : T.pats[i - 1]? with
    | none =>
      rw [hq] at hb
      rw [hb] at hol
      exact (List.eq_nil_of_length_eq_zero hol).symm
    | some p =>
      rw [hq] at hb
      change boundL T i = namesP p at hb
      show namesP (renP _ p) = _
      have hmem : p ∈ T.pats := List.mem_of_getElem? hq
      have hnd := ((patB_iff p).1 (hp p hmem)).2.2
      rw [namesP_ren]
      conv => lhs; rw [hb]
      rw [hb] at hol
      unfold outL at *
      rw [hb]
      rw [hb] at hol
      exact find_push _ _ _ hol hnd
  · have hb : boundL T i = [] := by unfold boundL; rw [if_neg (by omega), if_neg h15]
    have hb' : boundL (renM chNew σ sc T).1 i = [] := by unfold boundL; rw [renM_op, if_neg (by omega), if_neg h15]
    rw [hb']; rw [hb] at hol
    exact (List.eq_nil_of_length_eq_zero hol).symm
end Go.Proofs.YtjpahjfjpkbcnaaGreat

/- Bound names that are chosen anew, twice: the same. -/
namespace Go.Proofs.YtjpahjfjpkbcnaaGreat
open Go.Proofs Go.RowKit

theorem asOf_push (ns os : List ByteArray) (sc : Sc) (x : ByteArray) (h1 : ns.length = 1) (h2 : os = [x]) : asOf (pushS ns os sc) = x := by
  subst h2
  match ns, h1 with
  | [n], _ => rfl
theorem rebPats_eq {T : Tm} {scs : List Sc} (h : ∀ i, Idn (scs.getD i [])) (hp : T.op ≠ 15 → T.pats = []) : rebPats T scs = T.pats := by
  unfold rebPats
  split
  · refine List.ext_getElem? fun i => ?_
    rw [List.getElem?_map]
    by_cases hi : i < T.pats.length
    · rw [List.getElem?_range hi, List.getElem?_eq_getElem hi]
      simp [List.getD_eq_getElem?_getD, List.getElem?_eq_getElem hi, renP_id (by simpa [List.getD_eq_getElem?_getD] using h (i + 1))]
    · rw [List.getElem?_eq_none (by simpa using hi), List.getElem?_eq_none (by omega)]
      rfl
  · rename_i h15
    exact (hp h15).symm
theorem rebPats_no {T : Tm} {scs : List Sc} (h : T.op ≠ 15) : rebPats T scs = [] := by unfold rebPats; rw [if_neg h]

/-- One node, chosen anew twice. -/
theorem again_node (σ : NS) (sc sc' : Sc) (T : Tm) (hf : T.fits = true) (hid : Idn sc') :
    (∀ i, Idn ((scp chNew (boundL (renM chNew σ sc T).1) sc' σ T.kids.length).1.getD i [])) ∧
    (scp chNew (boundL (renM chNew σ sc T).1) sc' σ T.kids.length).2 = (scp chNew (boundL T) sc σ T.kids.length).2 ∧
    (if (renM chNew σ sc T).1.op = 4 then (findS sc' (renM chNew σ sc T).1.text).getD (renM chNew σ sc T).1.text else rebText (renM chNew σ sc T).1 (scp chNew (boundL (renM chNew σ sc T).1) sc' σ T.kids.length).1) = (renM chNew σ sc T).1.text := by
  have hb := bound_rn σ sc T hf
  have hl : ∀ i, i < T.kids.length → (boundL (renM chNew σ sc T).1 i).length = (boundL T i).length := fun i hi => by rw [hb i hi, outL_len]
  have hst : ∀ n, n ≤ T.kids.length → (scp chNew (boundL (renM chNew σ sc T).1) sc' σ n).2 = (scp chNew (boundL T) sc σ n).2 := fun n hn => scp_new _ _ _ _ _ n fun i hi => hl i (by omega)
  have hsc : ∀ i, i < T.kids.length → (scp chNew (boundL (renM chNew σ sc T).1) sc' σ T.kids.length).1.getD i [] = pushS (outL σ sc T i) (outL σ sc T i) sc' := fun i hi => by
    rw [scp_getD _ _ _ _ _ i hi, hst i (by omega), chL_new _ (boundL T i) _ (hl i hi), hb i hi]
  refine ⟨fun i => ?_, hst _ (Nat.le_refl _), ?_⟩
  · by_cases hi : i < T.kids.length
    · rw [hsc i hi]
      exact Idn.push _ _ hid
    · rw [List.getD_eq_getElem?_getD, List.getElem?_eq_none (by rw [scp_len]; omega)]
      intro p hp
      cases hp
  · obtain ⟨-, s5, s7, -⟩ := fits_shape hf
    rw [renM_op]
    split
    · exact hid.find _
    · rename_i h4
      unfold rebText
      rw [renM_op, renM_kids]
      split
      · rename_i h
        have hk : 0 < T.kids.length ∧ (boundL T (T.kids.length - 1)).length = 1 := by
          rcases h with h | h | h
          · have := s5 (.inl h); rw [this]; exact ⟨by omega, by unfold boundL; rw [if_pos (by omega)]; rfl⟩
          · have := s5 (.inr h); rw [this]; exact ⟨by omega, by unfold boundL; rw [if_pos (by omega)]; rfl⟩
          · have := s7 h; rw [this]; exact ⟨by omega, by unfold boundL; rw [if_pos (by omega)]; rfl⟩
        have ho : (outL σ sc T (T.kids.length - 1)).length = 1 := by rw [outL_len]; exact hk.2
        obtain ⟨x, hx⟩ := List.length_eq_one_iff.1 ho
        rw [hsc _ (by omega), asOf_push _ _ _ x ho hx, renM_text, if_neg h4]
        unfold rebText
        rw [if_pos h, scp_getD _ _ _ _ _ _ (by omega)]
        exact (asOf_push _ _ _ x hk.2 hx).symm
      · rfl

mutual
theorem again_M : ∀ (T : Tm) (d : Int) (σ : NS) (sc sc' : Sc), (∀ x ∈ partsM d T, x.2.fits = true) → Idn sc' → renM chNew σ sc' (renM chNew σ sc T).1 = renM chNew σ sc T
  | .mk op n text kids pats, d, σ, sc, sc', hf, hid => by
    have h0 := hf (d, .mk op n text kids pats) (by unfold partsM; exact List.mem_cons_self)
    obtain ⟨h1, h2, h3⟩ := again_node σ sc sc' (.mk op n text kids pats) h0 hid
    have hk := again_K kids (d + 1) (scp chNew (boundL (.mk op n text kids pats)) sc σ kids.length).2 (scp chNew (boundL (.mk op n text kids pats)) sc σ kids.length).1 (scp chNew (boundL (renM chNew σ sc (.mk op n text kids pats)).1) sc' σ kids.length).1 (fun x hx => hf x (by unfold partsM; exact List.mem_cons_of_mem _ hx)) h1
    have hkl : (renM chNew σ sc (.mk op n text kids pats)).1.kids.length = kids.length := renM_kids _ _ _ _
    have hkk : (renM chNew σ sc (.mk op n text kids pats)).1.kids = (renK chNew (scp chNew (boundL (.mk op n text kids pats)) sc σ kids.length).2 (scp chNew (boundL (.mk op n text kids pats)) sc σ kids.length).1 kids).1 := by rw [renM_eq]; rfl
    have hp : rebPats (renM chNew σ sc (.mk op n text kids pats)).1 (scp chNew (boundL (renM chNew σ sc (.mk op n text kids pats)).1) sc' σ kids.length).1 = (renM chNew σ sc (.mk op n text kids pats)).1.pats :=
      rebPats_eq h1 fun h => by rw [renM_pats]; exact rebPats_no (by rw [renM_op] at h; exact h)
    change (scp chNew (boundL (renM chNew σ sc (.mk op n text kids pats)).1) sc' σ kids.length).2 = (scp chNew (boundL (.mk op n text kids pats)) sc σ kids.length).2 at h2
    rw [renM_eq chNew σ sc' (renM chNew σ sc (.mk op n text kids pats)).1, hkl, hp, h2, hkk]
    change (if (renM chNew σ sc (.mk op n text kids pats)).1.op = 4 then (findS sc' (renM chNew σ sc (.mk op n text kids pats)).1.text).getD (renM chNew σ sc (.mk op n text kids pats)).1.text else rebText (renM chNew σ sc (.mk op n text kids pats)).1 (scp chNew (boundL (renM chNew σ sc (.mk op n text kids pats)).1) sc' σ kids.length).1) = _ at h3
    rw [h3]
    change renK chNew (scp chNew (boundL (.mk op n text kids pats)) sc σ kids.length).2 _ _ = _ at hk
    rw [hk]
    conv => rhs; rw [renM_eq]
    rw [renM_eq chNew σ sc (.mk op n text kids pats)]
    rfl
theorem again_K : ∀ (ks : List Tm) (d : Int) (σ : NS) (scs scs' : List Sc), (∀ x ∈ partssM d ks, x.2.fits = true) → (∀ i, Idn (scs'.getD i [])) → renK chNew σ scs' (renK chNew σ scs ks).1 = renK chNew σ scs ks
  | [], _, _, _, _, _, _ => rfl
  | k :: ks, d, σ, scs, scs', hf, hid => by
    have h1 := again_M k d σ (scs.headD []) (scs'.headD []) (fun x hx => hf x (by unfold partssM; exact List.mem_append_left _ hx)) (by have := hid 0; cases scs' <;> simpa using this)
    have h2 := again_K ks d (renM chNew σ (scs.headD []) k).2 scs.tail scs'.tail (fun x hx => hf x (by unfold partssM; exact List.mem_append_right _ hx)) (fun i => by have := hid (i + 1); cases scs' <;> simpa using this)
    conv => lhs; arg 4; unfold renK
    conv => rhs; unfold renK
    conv => lhs; unfold renK
    rw [h1, h2]
end
end Go.Proofs.YtjpahjfjpkbcnaaGreat

/- Bound names that are chosen anew: the term is formed, and the same names are free. -/
namespace Go.Proofs.YtjpahjfjpkbcnaaGreat
open Go.Proofs Go.RowKit

/-- What is taken holds FV, and there is room for c more. -/
def Fr (FV : List UInt8 → Bool) (σ : NS) (c : Nat) : Prop := (∀ x, FV x = true → σ.2 x = true) ∧ ∃ l : List ByteArray, l.length + c ≤ 1000000000 ∧ ∀ x, σ.2 x = inL l x
theorem Fr.step {FV : List UInt8 → Bool} {σ : NS} {c : Nat} (h : Fr FV σ (c + 1)) (s : ByteArray) : nameB (firstW σ.2) = true ∧ σ.2 (firstW σ.2).toList = false ∧ FV (firstW σ.2).toList = false ∧ Fr FV (chNew σ s).2 c := by
  obtain ⟨h1, l, h2, h3⟩ := h
  have he : σ.2 = inL l := funext h3
  obtain ⟨N, -, h4, h5, -⟩ := first_is σ.2 (by rw [he]; exact exists_fresh l (by omega))
  rw [h4] at h5
  unfold freshB at h5
  rw [Bool.and_eq_true, Bool.not_eq_true'] at h5
  refine ⟨h5.1, h5.2, ?_, fun x hx => ?_, l ++ [firstW σ.2], by rw [List.length_append, List.length_singleton]; omega, fun x => ?_⟩
  · cases hf : FV (firstW σ.2).toList
    · rfl
    · rw [h1 _ hf] at h5; simp at h5
  · show (σ.2 x || _) = true
    rw [h1 x hx]; rfl
  · show (σ.2 x || x == (firstW σ.2).toList) = _
    rw [inL_snoc, h3]
theorem Fr.list {FV : List UInt8 → Bool} : ∀ (ss : List ByteArray) (σ : NS) (c : Nat), Fr FV σ (ss.length + c) →
    (∀ o ∈ (chL chNew σ ss).1, nameB o = true ∧ FV o.toList = false ∧ σ.2 o.toList = false) ∧ ((chL chNew σ ss).1.map (·.toList)).Nodup ∧ Fr FV (chL chNew σ ss).2 c
  | [], σ, c, h => ⟨fun o ho => absurd ho (by simp [chL]), List.nodup_nil, by simpa [chL] using h⟩
  | s :: ss, σ, c, h => by
    rw [List.length_cons, show ss.length + 1 + c = ss.length + c + 1 by omega] at h
    obtain ⟨h1, h2, h3, h4⟩ := h.step s
    obtain ⟨i1, i2, i3⟩ := Fr.list ss _ c h4
    have hrest : ∀ o ∈ (chL chNew (chNew σ s).2 ss).1, σ.2 o.toList = false ∧ o.toList ≠ (firstW σ.2).toList := fun o ho => by
      have := (i1 o ho).2.2
      change (σ.2 o.toList || o.toList == (firstW σ.2).toList) = false at this
      rw [Bool.or_eq_false_iff, beq_eq_false_iff_ne] at this
      exact this
    refine ⟨fun o ho => ?_, ?_, i3⟩
    · rcases List.mem_cons.1 ho with rfl | ho
      · exact ⟨h1, h3, h2⟩
      · exact ⟨(i1 o ho).1, (i1 o ho).2.1, (hrest o ho).1⟩
    · show ((firstW σ.2 :: _).map _).Nodup
      rw [List.map_cons, List.nodup_cons]
      refine ⟨fun hm => ?_, i2⟩
      obtain ⟨o, ho, he⟩ := List.mem_map.1 hm
      exact (hrest o ho).2 he
theorem Fr.scopes {FV : List UInt8 → Bool} (bnd : Nat → List ByteArray) (sc : Sc) (σ : NS) : ∀ (n c : Nat), Fr FV σ (bndK bnd n + c) →
    (∀ i, i < n → (∀ o ∈ (chL chNew (scp chNew bnd sc σ i).2 (bnd i)).1, nameB o = true ∧ FV o.toList = false) ∧ ((chL chNew (scp chNew bnd sc σ i).2 (bnd i)).1.map (·.toList)).Nodup) ∧ Fr FV (scp chNew bnd sc σ n).2 c
  | 0, c, h => ⟨fun i hi => absurd hi (by omega), by simpa [bndK, scp] using h⟩
  | n + 1, c, h => by
    unfold bndK at h
    rw [Nat.add_assoc] at h
    obtain ⟨h1, h2⟩ := Fr.scopes bnd sc σ n _ h
    obtain ⟨i1, i2, i3⟩ := Fr.list _ _ _ h2
    refine ⟨fun i hi => ?_, i3⟩
    by_cases hin : i < n
    · exact h1 i hin
    · obtain rfl : i = n := by omega
      exact ⟨fun o ho => ⟨(i1 o ho).1, (i1 o ho).2.1⟩, i2⟩

/-- What a scope leads to is names that are none of FV. -/
def GS (FV : List UInt8 → Bool) (sc : Sc) : Prop := ∀ p ∈ sc, nameB p.2 = true ∧ FV p.2.toList = false
def ranOf (sc : Sc) (x : List UInt8) : Bool := sc.any fun p => p.2.toList == x
theorem GS.push {FV : List UInt8 → Bool} (ns outs : List ByteArray) {sc : Sc} (h : GS FV sc) (ho : ∀ o ∈ outs, nameB o = true ∧ FV o.toList = false) : GS FV (pushS ns outs sc) := fun p hp => by
  unfold pushS at hp
  rcases List.mem_append.1 hp with hp | hp
  · exact ho p.2 (List.of_mem_zip (List.mem_reverse.1 hp)).2
  · exact h p hp
theorem ranOf_push (ns outs : List ByteArray) (sc : Sc) (h : outs.length = ns.length) (x : List UInt8) : ranOf (pushS ns outs sc) x = (ranOf sc x || outs.any fun s => s.toList == x) := by
  unfold ranOf pushS
  rw [List.any_append, List.any_reverse, Bool.or_comm]
  congr 1
  have : ∀ (ns outs : List ByteArray), outs.length = ns.length → (ns.zip outs).any (fun p => p.2.toList == x) = outs.any fun s => s.toList == x := by
    intro ns
    induction ns with
    | nil => intro outs h; cases outs <;> simp at h ⊢
    | cons n ns ih =>
      intro outs h
      cases outs with
      | nil => simp at h
      | cons o outs => simp only [List.zip_cons_cons, List.any_cons]; rw [ih outs (by simpa using h)]
  exact this ns outs h
theorem GS.name {FV : List UInt8 → Bool} : ∀ {sc : Sc}, GS FV sc → ∀ t : ByteArray, nameB t = true → nameB ((findS sc t).getD t) = true
  | [], _, _, h => h
  | (n, s) :: sc, h, t, ht => by
    unfold findS
    split
    · exact (h (n, s) List.mem_cons_self).1
    · exact GS.name (fun p hp => h p (List.mem_cons_of_mem _ hp)) t ht
theorem find_ran : ∀ (sc : Sc) (t s : ByteArray), findS sc t = some s → ranOf sc s.toList = true
  | (n, o) :: sc, t, s, h => by
    unfold findS at h
    unfold ranOf
    rw [List.any_cons]
    split at h
    · cases h; simp
    · have := find_ran sc t s h
      unfold ranOf at this
      rw [this, Bool.or_true]
theorem GS.ran {FV : List UInt8 → Bool} {sc : Sc} (h : GS FV sc) {x : List UInt8} (hx : FV x = true) : ranOf sc x = false := by
  unfold ranOf
  rw [List.any_eq_false]
  intro p hp he
  have he' : p.2.toList = x := by simpa using he
  have := (h p hp).2
  rw [he', hx] at this
  cases this

theorem renP_patB {FV : List UInt8 → Bool} (p : Pt) (outs : List ByteArray) (sc : Sc) (hp : patB p = true) (hl : outs.length = (namesP p).length) (hs : GS FV (pushS (namesP p) outs sc)) (hn : (outs.map (·.toList)).Nodup) : patB (renP (pushS (namesP p) outs sc) p) = true := by
  obtain ⟨h1, h2, h3⟩ := (patB_iff p).1 hp
  refine (patB_iff _).2 ⟨by rw [parts_renP]; exact h1, fun q hq => ?_, ?_⟩
  · rw [partsP_ren, List.map_map] at hq
    obtain ⟨x, hx, rfl⟩ := List.mem_map.1 hq
    have h4 := h2 x.2 (List.mem_map_of_mem (f := fun x : Int × Pt => x.2) hx)
    show (renP _ x.2).fits = true
    generalize x.2 = q at h4 ⊢
    cases q with
    | mk f n t ps =>
    rw [renP_mk]
    change patFitB f n t ps.length = true at h4
    show patFitB f n (if f = 2 then _ else t) (renPs _ ps).length = true
    rw [renPs_map, List.length_map]
    by_cases hf : f = 2
    · subst hf
      rw [if_pos rfl]
      have hu : ∀ s : ByteArray, patFitB 2 n s ps.length = (n == 0 && nameB s && decide (ps.length = 0)) := fun s => by unfold patFitB; simp
      rw [hu] at h4 ⊢
      rw [Bool.and_eq_true, Bool.and_eq_true] at h4 ⊢
      exact ⟨⟨h4.1.1, hs.name t h4.1.2⟩, h4.2⟩
    · rw [if_neg hf]; exact h4
  · rw [namesP_ren, find_push _ _ _ hl h3]
    exact hn

/-- One node, chosen anew, is formed. -/
theorem fits_ren {FV : List UInt8 → Bool} (σ : NS) (sc : Sc) (T : Tm) (hf : T.fits = true) (hs : GS FV sc)
    (ho : ∀ i, i < T.kids.length → (∀ o ∈ outL σ sc T i, nameB o = true ∧ FV o.toList = false) ∧ ((outL σ sc T i).map (·.toList)).Nodup) : (renM chNew σ sc T).1.fits = true := by
  obtain ⟨-, s5, s7, s15⟩ := fits_shape hf
  have hp := (fits_pats hf).2
  have hf0 := hf
  unfold Tm.fits at hf0 ⊢
  simp only [Bool.and_eq_true] at hf0
  obtain ⟨⟨⟨f1, f2⟩, f3⟩, f4⟩ := hf0
  have hpl : (renM chNew σ sc T).1.pats.length = T.pats.length := by
    rw [renM_pats]
    by_cases h15 : T.op = 15
    · exact rebPats_len h15
    · rw [rebPats_no h15]
      unfold patsFitB at f4
      rw [if_neg h15] at f4
      simpa using (of_decide_eq_true f4).symm
  have hn : (renM chNew σ sc T).1.n = T.n := by rw [renM_eq]; rfl
  simp only [Bool.and_eq_true]
  refine ⟨⟨⟨by rw [renM_op, renM_kids, hpl]; exact f1, by rw [renM_op, hn]; exact f2⟩, ?_⟩, ?_⟩
  · rw [renM_op, renM_text]
    by_cases h4 : T.op = 4
    · rw [if_pos h4]
      unfold textFitsB at f3 ⊢
      rw [if_pos (.inl h4)] at f3 ⊢
      exact hs.name _ f3
    · rw [if_neg h4]
      unfold rebText
      split
      · rename_i h
        have hk : 0 < T.kids.length ∧ (boundL T (T.kids.length - 1)).length = 1 := by
          rcases h with h | h | h
          · have := s5 (.inl h); rw [this]; exact ⟨by omega, by unfold boundL; rw [if_pos (by omega)]; rfl⟩
          · have := s5 (.inr h); rw [this]; exact ⟨by omega, by unfold boundL; rw [if_pos (by omega)]; rfl⟩
          · have := s7 h; rw [this]; exact ⟨by omega, by unfold boundL; rw [if_pos (by omega)]; rfl⟩
        have hol : (outL σ sc T (T.kids.length - 1)).length = 1 := by rw [outL_len]; exact hk.2
        obtain ⟨x, hx⟩ := List.length_eq_one_iff.1 hol
        rw [scp_getD _ _ _ _ _ (T.kids.length - 1) (by omega), asOf_push _ _ _ x hk.2 hx]
        unfold textFitsB
        rw [if_pos (by omega)]
        exact ((ho (T.kids.length - 1) (by omega)).1 x (by rw [hx]; exact List.mem_singleton.2 rfl)).1
      · exact f3
  · rw [renM_op]
    unfold patsFitB at f4 ⊢
    rw [hpl]
    split
    · rename_i h15
      rw [if_pos h15] at f4
      simp only [Bool.and_eq_true] at f4 ⊢
      refine ⟨f4.1, ?_⟩
      unfold allP
      rw [List.all_eq_true]
      intro q hq
      obtain ⟨i, hi, rfl⟩ := List.getElem_of_mem hq
      have hi' : i < T.pats.length := by rw [← hpl]; exact hi
      have he := rebPats_at T (scp chNew (boundL T) sc σ T.kids.length).1 h15 i
      rw [← renM_pats] at he
      have hik : i + 1 < T.kids.length := by have := s15 h15; omega
      rw [List.getElem?_eq_getElem hi, List.getElem?_eq_getElem hi', Option.map_some, scp_getD _ _ _ _ _ _ hik] at he
      rw [Option.some.inj he]
      have hb : boundL T (i + 1) = namesP T.pats[i] := by
        unfold boundL
        rw [if_neg (by omega), if_pos ⟨h15, by omega⟩, show i + 1 - 1 = i by omega, List.getElem?_eq_getElem hi']
        rfl
      have hol := outL_len σ sc T (i + 1)
      have hoi := ho (i + 1) hik
      unfold outL at hol hoi
      have hgs := GS.push (FV := FV) (boundL T (i + 1)) _ hs hoi.1
      generalize (chL chNew (scp chNew (boundL T) sc σ (i + 1)).2 (boundL T (i + 1))).1 = os at *
      rw [hb] at hol hgs ⊢
      exact renP_patB _ _ _ (hp _ (List.getElem_mem hi')) hol hgs hoi.2
    · rename_i h15
      rw [if_neg h15] at f4
      exact f4

/-! ### the whole -/
theorem freesK_cons (bd : List UInt8 → Bool) (bnd : Nat → List ByteArray) (k : Tm) (ks : List Tm) (i : Nat) : freesK bd bnd (k :: ks) i = frees (fun x => bd x || (bnd i).any fun s => s.toList == x) k ++ freesK bd bnd ks (i + 1) := by
  conv => lhs; unfold freesK
theorem renK_cons (ch : Ch) (σ : NS) (scs : List Sc) (k : Tm) (ks : List Tm) : renK ch σ scs (k :: ks) = ((renM ch σ (scs.headD []) k).1 :: (renK ch (renM ch σ (scs.headD []) k).2 scs.tail ks).1, (renK ch (renM ch σ (scs.headD []) k).2 scs.tail ks).2) := by
  conv => lhs; unfold renK
theorem cntK_cons (k : Tm) (ks : List Tm) : cntK (k :: ks) = cntM k + cntK ks := by conv => lhs; unfold cntK
theorem partsM_eq (T : Tm) (d : Int) : partsM d T = (d, T) :: partssM (d + 1) T.kids := by
  cases T
  conv => lhs; unfold partsM
  rfl
theorem partssM_cons (t : Tm) (ts : List Tm) (d : Int) : partssM d (t :: ts) = partsM d t ++ partssM d ts := by conv => lhs; unfold partssM
def depths (xs : List (Int × Tm)) : List Int := xs.map (·.1)

/-- What is kept of a node: its Kids given. -/
theorem node_ren {FV : List UInt8 → Bool} (T : Tm) (d : Int) (σ : NS) (sc : Sc) (c : Nat) (bd bd' : List UInt8 → Bool) (hf : ∀ x ∈ partsM d T, x.2.fits = true) (hr : Fr FV σ (cntM T + c)) (hg : GS FV sc)
    (hb : ∀ x, bd x = bdOf sc x) (hb' : ∀ x, bd' x = ranOf sc x) (hv : ∀ x ∈ frees bd T, FV x = true)
    (hK : ∀ (σ : NS) (scs : List Sc) (bnd bnd' : Nat → List ByteArray), Fr FV σ (cntK T.kids + c) →
      (∀ j, j < T.kids.length → GS FV (scs.getD j []) ∧ (∀ x, (bd x || (bnd (0 + j)).any fun s => s.toList == x) = bdOf (scs.getD j []) x) ∧ ∀ x, (bd' x || (bnd' (0 + j)).any fun s => s.toList == x) = ranOf (scs.getD j []) x) → (∀ x ∈ freesK bd bnd T.kids 0, FV x = true) →
      freesK bd' bnd' (renK chNew σ scs T.kids).1 0 = freesK bd bnd T.kids 0 ∧ (∀ x ∈ partssM (d + 1) (renK chNew σ scs T.kids).1, x.2.fits = true) ∧ depths (partssM (d + 1) (renK chNew σ scs T.kids).1) = depths (partssM (d + 1) T.kids) ∧ Fr FV (renK chNew σ scs T.kids).2 c) :
    frees bd' (renM chNew σ sc T).1 = frees bd T ∧ (∀ x ∈ partsM d (renM chNew σ sc T).1, x.2.fits = true) ∧ depths (partsM d (renM chNew σ sc T).1) = depths (partsM d T) ∧ Fr FV (renM chNew σ sc T).2 c := by
  have h0 : T.fits = true := hf (d, T) (by rw [partsM_eq]; exact List.mem_cons_self)
  rw [cntM_eq, Nat.add_assoc] at hr
  obtain ⟨ho, hr2⟩ := Fr.scopes (boundL T) sc σ T.kids.length _ hr
  have hfit := fits_ren σ sc T h0 hg ho
  have hbr := bound_rn σ sc T h0
  have hkk : (renM chNew σ sc T).1.kids = (renK chNew (scp chNew (boundL T) sc σ T.kids.length).2 (scp chNew (boundL T) sc σ T.kids.length).1 T.kids).1 := by rw [renM_eq]; rfl
  have hst : (renM chNew σ sc T).2 = (renK chNew (scp chNew (boundL T) sc σ T.kids.length).2 (scp chNew (boundL T) sc σ T.kids.length).1 T.kids).2 := by rw [renM_eq]
  rw [frees_eq] at hv
  obtain ⟨k1, k2, k3, k4⟩ := hK (scp chNew (boundL T) sc σ T.kids.length).2 (scp chNew (boundL T) sc σ T.kids.length).1 (boundL T) (boundL (renM chNew σ sc T).1) hr2 (fun j hj => by
    rw [scp_getD _ _ _ _ _ j hj, Nat.zero_add, hbr j hj]
    have hl := outL_len σ sc T j
    exact ⟨GS.push _ _ hg (ho j hj).1, fun x => by rw [bdOf_push _ _ _ hl, hb], fun x => by rw [ranOf_push _ _ _ hl, hb']⟩) (fun x hx => hv x (List.mem_append_right _ hx))
  refine ⟨?_, ?_, ?_, by rw [hst]; exact k4⟩
  · rw [frees_eq bd' (renM chNew σ sc T).1, frees_eq bd T, hkk, k1, renM_op]
    congr 1
    by_cases h4 : T.op = 4
    · rw [renM_text, if_pos h4, hb', hb, ← findS_bd]
      cases hfd : findS sc T.text with
      | some s =>
        rw [Option.getD_some, find_ran sc _ _ hfd]
        simp
      | none =>
        rw [Option.getD_none]
        have hx : FV T.text.toList = true := hv _ (List.mem_append_left _ (by rw [if_pos ⟨h4, by rw [hb, ← findS_bd, hfd]; rfl⟩]; exact List.mem_singleton.2 rfl))
        rw [hg.ran hx]
        simp
    · rw [if_neg (by simp [h4]), if_neg (by simp [h4])]
  · intro x hx
    rw [partsM_eq, hkk] at hx
    rcases List.mem_cons.1 hx with rfl | hx
    · exact hfit
    · exact k2 x hx
  · rw [partsM_eq, partsM_eq, hkk]
    unfold depths at k3 ⊢
    rw [List.map_cons, List.map_cons, k3]
mutual
theorem ren_M {FV : List UInt8 → Bool} : ∀ (T : Tm) (d : Int) (σ : NS) (sc : Sc) (c : Nat) (bd bd' : List UInt8 → Bool), (∀ x ∈ partsM d T, x.2.fits = true) → Fr FV σ (cntM T + c) → GS FV sc →
    (∀ x, bd x = bdOf sc x) → (∀ x, bd' x = ranOf sc x) → (∀ x ∈ frees bd T, FV x = true) →
    frees bd' (renM chNew σ sc T).1 = frees bd T ∧ (∀ x ∈ partsM d (renM chNew σ sc T).1, x.2.fits = true) ∧ depths (partsM d (renM chNew σ sc T).1) = depths (partsM d T) ∧ Fr FV (renM chNew σ sc T).2 c
  | .mk op n text kids pats, d, σ, sc, c, bd, bd', hf, hr, hg, hb, hb', hv =>
    node_ren (.mk op n text kids pats) d σ sc c bd bd' hf hr hg hb hb' hv fun σ1 scs bnd bnd' h1 h2 h3 =>
      ren_K kids (d + 1) σ1 scs c bd bd' bnd bnd' 0 (fun x hx => hf x (by rw [partsM_eq]; exact List.mem_cons_of_mem _ hx)) h1 h2 h3
theorem ren_K {FV : List UInt8 → Bool} : ∀ (ks : List Tm) (d : Int) (σ : NS) (scs : List Sc) (c : Nat) (bd bd' : List UInt8 → Bool) (bnd bnd' : Nat → List ByteArray) (i : Nat), (∀ x ∈ partssM d ks, x.2.fits = true) → Fr FV σ (cntK ks + c) →
    (∀ j, j < ks.length → GS FV (scs.getD j []) ∧ (∀ x, (bd x || (bnd (i + j)).any fun s => s.toList == x) = bdOf (scs.getD j []) x) ∧ ∀ x, (bd' x || (bnd' (i + j)).any fun s => s.toList == x) = ranOf (scs.getD j []) x) → (∀ x ∈ freesK bd bnd ks i, FV x = true) →
    freesK bd' bnd' (renK chNew σ scs ks).1 i = freesK bd bnd ks i ∧ (∀ x ∈ partssM d (renK chNew σ scs ks).1, x.2.fits = true) ∧ depths (partssM d (renK chNew σ scs ks).1) = depths (partssM d ks) ∧ Fr FV (renK chNew σ scs ks).2 c
  | [], d, σ, scs, c, bd, bd', bnd, bnd', i, _, hr, _, _ => by
    have e : renK chNew σ scs [] = ([], σ) := by unfold renK; rfl
    rw [e]
    have e2 : cntK [] = 0 := by unfold cntK; rfl
    rw [e2, Nat.zero_add] at hr
    exact ⟨by unfold freesK; rfl, (fun x hx => by unfold partssM at hx; cases hx), rfl, hr⟩
  | k :: ks, d, σ, scs, c, bd, bd', bnd, bnd', i, hf, hr, hs, hv => by
    rw [cntK_cons, Nat.add_assoc] at hr
    rw [freesK_cons] at hv
    have hh : scs.headD [] = scs.getD 0 [] := by cases scs <;> rfl
    have ht : ∀ j, scs.tail.getD j [] = scs.getD (j + 1) [] := fun j => by cases scs <;> simp
    obtain ⟨s1, s2, s3⟩ := hs 0 (by simp)
    rw [Nat.add_zero] at s2 s3
    obtain ⟨a1, a2, a3, a4⟩ := ren_M k d σ (scs.headD []) (cntK ks + c) (fun x => bd x || (bnd i).any fun s => s.toList == x) (fun x => bd' x || (bnd' i).any fun s => s.toList == x) (fun x hx => hf x (by rw [partssM_cons]; exact List.mem_append_left _ hx)) hr (by rw [hh]; exact s1) (by rw [hh]; exact s2) (by rw [hh]; exact s3) (fun x hx => hv x (List.mem_append_left _ hx))
    obtain ⟨b1, b2, b3, b4⟩ := ren_K ks d (renM chNew σ (scs.headD []) k).2 scs.tail c bd bd' bnd bnd' (i + 1) (fun x hx => hf x (by rw [partssM_cons]; exact List.mem_append_right _ hx)) a4 (fun j hj => by
      have := hs (j + 1) (by simp; omega)
      rw [ht, show i + 1 + j = i + (j + 1) by omega]
      exact this) (fun x hx => hv x (List.mem_append_right _ hx))
    rw [renK_cons]
    refine ⟨by rw [freesK_cons, freesK_cons, a1, b1], fun x hx => ?_, ?_, b4⟩
    · rw [partssM_cons] at hx
      rcases List.mem_append.1 hx with hx | hx
      · exact a2 x hx
      · exact b2 x hx
    · rw [partssM_cons, partssM_cons]
      unfold depths at a3 b3 ⊢
      rw [List.map_append, List.map_append, a3, b3]
end

theorem inL_freeL (T : Tm) (x : List UInt8) (h : x ∈ frees (fun _ => false) T) : inL (freeL T) x = true := by
  unfold inL freeL
  rw [List.any_eq_true]
  refine ⟨bytesArr x, List.mem_map_of_mem (List.mem_mergeSort.2 ((mem_dd _ _).2 h)), ?_⟩
  have : (bytesArr x).toList = x := by rw [ByteArray.toList_eq]; unfold bytesArr; simp
  rw [this]; simp

theorem canM_all {T : Tm} (h : termB T = true) : frees (fun _ => false) (canM T) = frees (fun _ => false) T ∧ termB (canM T) = true := by
  have hf := goM_all _ 0 h
  have hl := goM_len _ 0 h (by omega)
  have hd := goM_depth _ 0 h
  have hc := termB_cnt h
  have hfl := freeL_len T
  have hfr := frees_len T (fun _ => false) 1
  obtain ⟨h1, h2, h3, -⟩ := ren_M (FV := inL (freeL T)) T 1 ((freeL T).length, inL (freeL T)) [] 0 (fun _ => false) (fun _ => false) hf ⟨fun x hx => hx, freeL T, by omega, fun x => rfl⟩ (fun p hp => by cases hp) (fun x => rfl) (fun x => rfl) (fun x hx => inL_freeL T x hx)
  refine ⟨h1, goM_of _ 0 ?_ fun x hx => ⟨?_, h2 x hx⟩⟩
  · have := congrArg List.length h3
    unfold depths at this
    simp only [List.length_map] at this
    unfold canM
    omega
  · have hm : x.1 ∈ depths (partsM 1 T) := by
      rw [← h3]
      exact List.mem_map_of_mem (f := fun y : Int × Tm => y.1) hx
    obtain ⟨y, hy, he⟩ := List.mem_map.1 hm
    rw [← he]
    exact hd y hy
theorem canM_free {T : Tm} (h : termB T = true) : freeL (canM T) = freeL T := by
  unfold freeL
  rw [(canM_all h).1]
theorem canM_canM {T : Tm} (h : termB T = true) : canM (canM T) = canM T := by
  have e := again_M T 1 ((freeL T).length, inL (freeL T)) [] [] (goM_all _ 0 h) (fun p hp => by cases hp)
  show (renM chNew ((freeL (canM T)).length, inL (freeL (canM T))) [] (canM T)).1 = canM T
  rw [canM_free h]
  unfold canM
  rw [e]
end Go.Proofs.YtjpahjfjpkbcnaaGreat

/- TermAnew: its walk. -/
namespace Go.Proofs.YtjpahjfjpkbcnaaGreat
open Go.Proofs Go.RowKit

theorem CanonEnd.yes {T : Tm} {w w' : World} {e : Ending} (h : CanonEnd T w e w') (hb : termB T = true) : ∃ nv, e = .returned (.tuple #[nv, .int .i64 0]) ∧ TmAt w'.heap.size w' (canM T) nv := by
  unfold CanonEnd at h
  rw [if_pos hb] at h
  obtain ⟨nv, h1, h2⟩ := h
  exact ⟨nv, h1, TmIn.to (fun b h => h.2) _ _ h2⟩
theorem AlikeEnd.yes {S T : Tm} {e : Ending} (h : AlikeEnd S T e) (hs : termB S = true) (ht : termB T = true) : e = .returned (.tuple #[.bool (eqM (canM S) (canM T)), .int .i64 0]) := by
  unfold AlikeEnd at h
  rw [hs, ht] at h
  exact h
theorem FreeEnd.yes {T : Tm} {w w' : World} {e : Ending} (h : FreeEnd T w e w') (hb : termB T = true) : ∃ a cap, e = .returned (.tuple #[.slice a (freeL T).length cap, .int .i64 0]) ∧ SlV w'.heap.size (.slice a (freeL T).length cap) (freeL T).length fun b o => StrsAt w' (freeL T) b o := by
  unfold FreeEnd at h
  rw [if_pos hb] at h
  obtain ⟨v', h1, h2⟩ := h
  obtain ⟨a, cap, rfl⟩ := h2.split
  exact ⟨a, cap, h1, h2.to (fun b h => h.2) fun _ _ h => h⟩
theorem canM_fit {T : Tm} (h : termB T = true) (hf : Fit T) : Fit (canM T) := (termB_sub h hf).renM.fit

set_option maxHeartbeats 16000000 in
set_option maxRecDepth 100000 in
theorem anew_any (t q : Tm) (v qv : Value) (w : World) (ht : TmAt w.heap.size w t v) (hq : TmAt w.heap.size w q qv) :
    Calls Tryz.prog 12 #[v, qv] w fun e w' => e = .returned (.bool true) ∧ Below w.heap.size w w' := by
  obtain ⟨a, cap, a', cap', rfl, -⟩ := ht.parts
  obtain ⟨b, bcap, b', bcap', rfl, -⟩ := hq.parts
  obtain ⟨W, hW, hb, hs, hx2, hx3⟩ := two_boxes w #[.int .i64 t.op, .int .i64 t.n, .string t.text, .slice a t.kids.length cap, .slice a' t.pats.length cap'] #[.int .i64 q.op, .int .i64 q.n, .string q.text, .slice b q.kids.length bcap, .slice b' q.pats.length bcap'] 32
  have HT := Lib.hid ht; have HQ := Lib.hid hq
  replace HT := Lib.hid (TmAt.keep hb hb.size _ _ HT.out)
  replace HQ := Lib.hid (TmAt.keep hb hb.size _ _ HQ.out)
  have X2 := Lib.hid hx2; have X3 := Lib.hid hx3; have HV := Lib.hid hb
  clear ht hq hb hx2 hx3 hs
  go_enter Tryz.func12, Tryz.ntmps12
  go_upto_region 1 with fail
  rw [← hW]
  clear hW
  obtain ⟨c00, c01, c02, c03, c04⟩ := cells5 X2.out
  go_wp2_with fail
  refine (SmallTerm_any t _ W HT.out).mono ?_
  rintro e w1 ⟨rfl, hb⟩
  replace HV := Lib.hid (HV.out.trans (hb.mono HV.out.size))
  replace X2 := Lib.hid (bget' hb X2.out)
  replace X3 := Lib.hid (bget' hb X3.out)
  replace HT := Lib.hid (TmAt.keep hb hb.size _ _ HT.out)
  replace HQ := Lib.hid (TmAt.keep hb hb.size _ _ HQ.out)
  clear hb
  clear c00 c01 c02 c03 c04
  cases hs1 : SmallTermB t with
  | false =>
    go_wp2_with fail
    refine (known_any _).mono ?_
    rintro e wk ⟨rfl, hb⟩
    replace HV := Lib.hid (HV.out.trans (hb.mono HV.out.size))
    clear hb
    go_wp2
    go_ret
    exact ⟨rfl, HV.out⟩
  | true =>
  obtain ⟨c00, c01, c02, c03, c04⟩ := cells5 X3.out
  go_wp2_with fail
  refine (SmallTerm_any q _ w1 HQ.out).mono ?_
  rintro e w2 ⟨rfl, hb⟩
  replace HV := Lib.hid (HV.out.trans (hb.mono HV.out.size))
  replace X2 := Lib.hid (bget' hb X2.out)
  replace X3 := Lib.hid (bget' hb X3.out)
  replace HT := Lib.hid (TmAt.keep hb hb.size _ _ HT.out)
  replace HQ := Lib.hid (TmAt.keep hb hb.size _ _ HQ.out)
  clear hb
  clear c00 c01 c02 c03 c04
  cases hs2 : SmallTermB q with
  | false =>
    go_wp2_with fail
    refine (known_any _).mono ?_
    rintro e wk ⟨rfl, hb⟩
    replace HV := Lib.hid (HV.out.trans (hb.mono HV.out.size))
    clear hb
    go_wp2
    go_ret
    exact ⟨rfl, HV.out⟩
  | true =>
  have HF := SmallTerm_fit hs1; have HG := SmallTerm_fit hs2; clear hs1 hs2
  obtain ⟨c00, c01, c02, c03, c04⟩ := cells5 X2.out
  go_wp2_with fail
  refine (C30 t w2 HT.out HF.ok).mono ?_
  rintro e w3 ⟨rfl, hb⟩
  replace HV := Lib.hid (HV.out.trans (hb.mono HV.out.size))
  replace X2 := Lib.hid (bget' hb X2.out)
  replace X3 := Lib.hid (bget' hb X3.out)
  replace HT := Lib.hid (TmAt.keep hb hb.size _ _ HT.out)
  replace HQ := Lib.hid (TmAt.keep hb hb.size _ _ HQ.out)
  clear hb
  clear c00 c01 c02 c03 c04
  cases htb : termB t with
  | false =>
    go_wp2_with fail
    refine (known_any _).mono ?_
    rintro e wk ⟨rfl, hb⟩
    replace HV := Lib.hid (HV.out.trans (hb.mono HV.out.size))
    clear hb
    go_wp2
    go_ret
    exact ⟨rfl, HV.out⟩
  | true =>
  have HTB := Lib.hid htb; clear htb
  obtain ⟨c00, c01, c02, c03, c04⟩ := cells5 X3.out
  go_wp2_with fail
  refine (C30 q w3 HQ.out HG.ok).mono ?_
  rintro e w4 ⟨rfl, hb⟩
  replace HV := Lib.hid (HV.out.trans (hb.mono HV.out.size))
  replace X2 := Lib.hid (bget' hb X2.out)
  replace X3 := Lib.hid (bget' hb X3.out)
  replace HT := Lib.hid (TmAt.keep hb hb.size _ _ HT.out)
  replace HQ := Lib.hid (TmAt.keep hb hb.size _ _ HQ.out)
  clear hb
  clear c00 c01 c02 c03 c04
  cases hqb : termB q with
  | false =>
    go_wp2_with fail
    refine (known_any _).mono ?_
    rintro e wk ⟨rfl, hb⟩
    replace HV := Lib.hid (HV.out.trans (hb.mono HV.out.size))
    clear hb
    go_wp2
    go_ret
    exact ⟨rfl, HV.out⟩
  | true =>
  have HQB := Lib.hid hqb; clear hqb
  have HCB := Lib.hid (canM_all HTB.out).2; have HCF := canM_fit HTB.out HF; have HCC := Lib.hid (canM_canM HTB.out); have HFR := Lib.hid (canM_free HTB.out); have HFL : (freeL t).length ≤ 1000000 := by have := freeL_len t; have := frees_len t (fun _ => false) 1; have := goM_len _ 0 HTB.out (by omega); omega
  obtain ⟨c00, c01, c02, c03, c04⟩ := cells5 X2.out
  go_wp2_with fail
  refine (Canon_any t _ w4 HT.out HF).mono ?_
  rintro e w5 ⟨he, hb⟩
  replace HV := Lib.hid (HV.out.trans (hb.mono HV.out.size))
  replace X2 := Lib.hid (bget' hb X2.out)
  replace X3 := Lib.hid (bget' hb X3.out)
  replace HT := Lib.hid (TmAt.keep hb hb.size _ _ HT.out)
  replace HQ := Lib.hid (TmAt.keep hb hb.size _ _ HQ.out)
  obtain ⟨vx, rfl, hvx⟩ := CanonEnd.yes he HTB.out
  have Hvx := Lib.hid hvx
  clear hvx
  obtain ⟨vxa, vxb, vxc, vxd, rfl, -⟩ := Hvx.out.parts
  clear hb
  clear c00 c01 c02 c03 c04
  go_upto_region 4 with fail
  have hb := (Below.refl _ w5).alloc (Nat.le_refl _) (.cells #[.int .i64 (canM t).op, .int .i64 (canM t).n, .string (canM t).text, .slice vxa (canM t).kids.length vxb, .slice vxc (canM t).pats.length vxd] 32)
  have X5n := Lib.hid (heap_alloc_new w5 (.cells #[.int .i64 (canM t).op, .int .i64 (canM t).n, .string (canM t).text, .slice vxa (canM t).kids.length vxb, .slice vxc (canM t).pats.length vxd] 32))
  replace HV := Lib.hid (HV.out.trans (hb.mono HV.out.size))
  replace X2 := Lib.hid (bget' hb X2.out)
  replace X3 := Lib.hid (bget' hb X3.out)
  replace HT := Lib.hid (TmAt.keep hb hb.size _ _ HT.out)
  replace HQ := Lib.hid (TmAt.keep hb hb.size _ _ HQ.out)
  replace Hvx := Lib.hid (TmAt.keep hb hb.size _ _ Hvx.out)
  clear hb
  generalize (w5.alloc (.cells #[.int .i64 (canM t).op, .int .i64 (canM t).n, .string (canM t).text, .slice vxa (canM t).kids.length vxb, .slice vxc (canM t).pats.length vxd] 32)) = w6 at *
  have X5 := X5n
  clear X5n
  obtain ⟨c00, c01, c02, c03, c04⟩ := cells5 X3.out
  go_wp2_with fail
  refine (Canon_any q _ w6 HQ.out HG).mono ?_
  rintro e w7 ⟨he, hb⟩
  replace HV := Lib.hid (HV.out.trans (hb.mono HV.out.size))
  replace X2 := Lib.hid (bget' hb X2.out)
  replace X3 := Lib.hid (bget' hb X3.out)
  replace X5 := Lib.hid (bget' hb X5.out)
  replace HT := Lib.hid (TmAt.keep hb hb.size _ _ HT.out)
  replace HQ := Lib.hid (TmAt.keep hb hb.size _ _ HQ.out)
  replace Hvx := Lib.hid (TmAt.keep hb hb.size _ _ Hvx.out)
  obtain ⟨vy, rfl, hvy⟩ := CanonEnd.yes he HQB.out
  have Hvy := Lib.hid hvy
  clear hvy
  obtain ⟨vya, vyb, vyc, vyd, rfl, -⟩ := Hvy.out.parts
  clear hb
  clear c00 c01 c02 c03 c04
  go_upto_region 5 with fail
  have hb := (Below.refl _ w7).alloc (Nat.le_refl _) (.cells #[.int .i64 (canM q).op, .int .i64 (canM q).n, .string (canM q).text, .slice vya (canM q).kids.length vyb, .slice vyc (canM q).pats.length vyd] 32)
  have X7n := Lib.hid (heap_alloc_new w7 (.cells #[.int .i64 (canM q).op, .int .i64 (canM q).n, .string (canM q).text, .slice vya (canM q).kids.length vyb, .slice vyc (canM q).pats.length vyd] 32))
  replace HV := Lib.hid (HV.out.trans (hb.mono HV.out.size))
  replace X2 := Lib.hid (bget' hb X2.out)
  replace X3 := Lib.hid (bget' hb X3.out)
  replace X5 := Lib.hid (bget' hb X5.out)
  replace HT := Lib.hid (TmAt.keep hb hb.size _ _ HT.out)
  replace HQ := Lib.hid (TmAt.keep hb hb.size _ _ HQ.out)
  replace Hvx := Lib.hid (TmAt.keep hb hb.size _ _ Hvx.out)
  replace Hvy := Lib.hid (TmAt.keep hb hb.size _ _ Hvy.out)
  clear hb
  generalize (w7.alloc (.cells #[.int .i64 (canM q).op, .int .i64 (canM q).n, .string (canM q).text, .slice vya (canM q).kids.length vyb, .slice vyc (canM q).pats.length vyd] 32)) = w8 at *
  have X7 := X7n
  clear X7n
  obtain ⟨c00, c01, c02, c03, c04⟩ := cells5 X5.out
  go_wp2_with fail
  refine (Canon_any (canM t) _ w8 Hvx.out HCF).mono ?_
  rintro e w9 ⟨he, hb⟩
  replace HV := Lib.hid (HV.out.trans (hb.mono HV.out.size))
  replace X2 := Lib.hid (bget' hb X2.out)
  replace X3 := Lib.hid (bget' hb X3.out)
  replace X5 := Lib.hid (bget' hb X5.out)
  replace X7 := Lib.hid (bget' hb X7.out)
  replace HT := Lib.hid (TmAt.keep hb hb.size _ _ HT.out)
  replace HQ := Lib.hid (TmAt.keep hb hb.size _ _ HQ.out)
  replace Hvx := Lib.hid (TmAt.keep hb hb.size _ _ Hvx.out)
  replace Hvy := Lib.hid (TmAt.keep hb hb.size _ _ Hvy.out)
  obtain ⟨vz, rfl, hvz⟩ := CanonEnd.yes he HCB.out
  rw [HCC.out] at hvz
  have Hvz := Lib.hid hvz
  clear hvz
  obtain ⟨vza, vzb, vzc, vzd, rfl, -⟩ := Hvz.out.parts
  clear hb
  clear c00 c01 c02 c03 c04
  go_upto_region 6 with fail
  have hb := (Below.refl _ w9).alloc (Nat.le_refl _) (.cells #[.int .i64 (canM t).op, .int .i64 (canM t).n, .string (canM t).text, .slice vza (canM t).kids.length vzb, .slice vzc (canM t).pats.length vzd] 32)
  have X9n := Lib.hid (heap_alloc_new w9 (.cells #[.int .i64 (canM t).op, .int .i64 (canM t).n, .string (canM t).text, .slice vza (canM t).kids.length vzb, .slice vzc (canM t).pats.length vzd] 32))
  replace HV := Lib.hid (HV.out.trans (hb.mono HV.out.size))
  replace X2 := Lib.hid (bget' hb X2.out)
  replace X3 := Lib.hid (bget' hb X3.out)
  replace X5 := Lib.hid (bget' hb X5.out)
  replace X7 := Lib.hid (bget' hb X7.out)
  replace HT := Lib.hid (TmAt.keep hb hb.size _ _ HT.out)
  replace HQ := Lib.hid (TmAt.keep hb hb.size _ _ HQ.out)
  replace Hvx := Lib.hid (TmAt.keep hb hb.size _ _ Hvx.out)
  replace Hvy := Lib.hid (TmAt.keep hb hb.size _ _ Hvy.out)
  replace Hvz := Lib.hid (TmAt.keep hb hb.size _ _ Hvz.out)
  clear hb
  generalize (w9.alloc (.cells #[.int .i64 (canM t).op, .int .i64 (canM t).n, .string (canM t).text, .slice vza (canM t).kids.length vzb, .slice vzc (canM t).pats.length vzd] 32)) = w10 at *
  have X9 := X9n
  clear X9n
  obtain ⟨c00, c01, c02, c03, c04⟩ := cells5 X2.out
  obtain ⟨c10, c11, c12, c13, c14⟩ := cells5 X5.out
  go_wp2_with fail
  refine (Alike_any t (canM t) _ _ w10 HT.out Hvx.out HF HCF).mono ?_
  rintro e w11 ⟨he, hb⟩
  replace HV := Lib.hid (HV.out.trans (hb.mono HV.out.size))
  replace X2 := Lib.hid (bget' hb X2.out)
  replace X3 := Lib.hid (bget' hb X3.out)
  replace X5 := Lib.hid (bget' hb X5.out)
  replace X7 := Lib.hid (bget' hb X7.out)
  replace X9 := Lib.hid (bget' hb X9.out)
  replace HT := Lib.hid (TmAt.keep hb hb.size _ _ HT.out)
  replace HQ := Lib.hid (TmAt.keep hb hb.size _ _ HQ.out)
  replace Hvx := Lib.hid (TmAt.keep hb hb.size _ _ Hvx.out)
  replace Hvy := Lib.hid (TmAt.keep hb hb.size _ _ Hvy.out)
  replace Hvz := Lib.hid (TmAt.keep hb hb.size _ _ Hvz.out)
  obtain rfl := AlikeEnd.yes he HTB.out HCB.out
  rw [HCC.out, eqM_refl]
  clear hb
  clear c00 c01 c02 c03 c04 c10 c11 c12 c13 c14
  obtain ⟨c00, c01, c02, c03, c04⟩ := cells5 X2.out
  obtain ⟨c10, c11, c12, c13, c14⟩ := cells5 X3.out
  go_wp2_with fail
  refine (Alike_any t q _ _ w11 HT.out HQ.out HF HG).mono ?_
  rintro e w12 ⟨he, hb⟩
  replace HV := Lib.hid (HV.out.trans (hb.mono HV.out.size))
  replace X2 := Lib.hid (bget' hb X2.out)
  replace X3 := Lib.hid (bget' hb X3.out)
  replace X5 := Lib.hid (bget' hb X5.out)
  replace X7 := Lib.hid (bget' hb X7.out)
  replace X9 := Lib.hid (bget' hb X9.out)
  replace HT := Lib.hid (TmAt.keep hb hb.size _ _ HT.out)
  replace HQ := Lib.hid (TmAt.keep hb hb.size _ _ HQ.out)
  replace Hvx := Lib.hid (TmAt.keep hb hb.size _ _ Hvx.out)
  replace Hvy := Lib.hid (TmAt.keep hb hb.size _ _ Hvy.out)
  replace Hvz := Lib.hid (TmAt.keep hb hb.size _ _ Hvz.out)
  obtain rfl := AlikeEnd.yes he HTB.out HQB.out
  clear hb
  clear c00 c01 c02 c03 c04 c10 c11 c12 c13 c14
  obtain ⟨c00, c01, c02, c03, c04⟩ := cells5 X2.out
  go_wp2_with fail
  refine (Free_any t _ w12 HT.out HF.h HF.ok).mono ?_
  rintro e w13 ⟨he, hb⟩
  replace HV := Lib.hid (HV.out.trans (hb.mono HV.out.size))
  replace X2 := Lib.hid (bget' hb X2.out)
  replace X3 := Lib.hid (bget' hb X3.out)
  replace X5 := Lib.hid (bget' hb X5.out)
  replace X7 := Lib.hid (bget' hb X7.out)
  replace X9 := Lib.hid (bget' hb X9.out)
  replace HT := Lib.hid (TmAt.keep hb hb.size _ _ HT.out)
  replace HQ := Lib.hid (TmAt.keep hb hb.size _ _ HQ.out)
  replace Hvx := Lib.hid (TmAt.keep hb hb.size _ _ Hvx.out)
  replace Hvy := Lib.hid (TmAt.keep hb hb.size _ _ Hvy.out)
  replace Hvz := Lib.hid (TmAt.keep hb hb.size _ _ Hvz.out)
  obtain ⟨fa, fc, rfl, hfs⟩ := FreeEnd.yes he HTB.out
  have HS1 := Lib.hid hfs; clear hfs
  clear hb
  clear c00 c01 c02 c03 c04
  obtain ⟨c00, c01, c02, c03, c04⟩ := cells5 X5.out
  go_wp2_with fail
  refine (Free_any (canM t) _ w13 Hvx.out HCF.h HCF.ok).mono ?_
  rintro e w14 ⟨he, hb⟩
  replace HV := Lib.hid (HV.out.trans (hb.mono HV.out.size))
  replace X2 := Lib.hid (bget' hb X2.out)
  replace X3 := Lib.hid (bget' hb X3.out)
  replace X5 := Lib.hid (bget' hb X5.out)
  replace X7 := Lib.hid (bget' hb X7.out)
  replace X9 := Lib.hid (bget' hb X9.out)
  replace HT := Lib.hid (TmAt.keep hb hb.size _ _ HT.out)
  replace HQ := Lib.hid (TmAt.keep hb hb.size _ _ HQ.out)
  replace Hvx := Lib.hid (TmAt.keep hb hb.size _ _ Hvx.out)
  replace Hvy := Lib.hid (TmAt.keep hb hb.size _ _ Hvy.out)
  replace Hvz := Lib.hid (TmAt.keep hb hb.size _ _ Hvz.out)
  replace HS1 := Lib.hid (HS1.out.mono hb.size fun b o hlt h => StrsAt.keep hb _ _ _ hlt h)
  obtain ⟨ga, gc, rfl, hgs⟩ := FreeEnd.yes he HCB.out
  rw [HFR.out] at hgs ⊢
  have HS2 := Lib.hid hgs; clear hgs
  clear hb
  clear c00 c01 c02 c03 c04
  obtain ⟨c00, c01, c02, c03, c04⟩ := cells5 X9.out
  obtain ⟨c10, c11, c12, c13, c14⟩ := cells5 X5.out
  go_wp2_with fail
  refine (Same_any (canM t) (canM t) _ _ w14 Hvz.out Hvx.out).mono ?_
  rintro e w15 ⟨rfl, hb⟩
  replace HV := Lib.hid (HV.out.trans (hb.mono HV.out.size))
  replace X2 := Lib.hid (bget' hb X2.out)
  replace X3 := Lib.hid (bget' hb X3.out)
  replace X5 := Lib.hid (bget' hb X5.out)
  replace X7 := Lib.hid (bget' hb X7.out)
  replace X9 := Lib.hid (bget' hb X9.out)
  replace HT := Lib.hid (TmAt.keep hb hb.size _ _ HT.out)
  replace HQ := Lib.hid (TmAt.keep hb hb.size _ _ HQ.out)
  replace Hvx := Lib.hid (TmAt.keep hb hb.size _ _ Hvx.out)
  replace Hvy := Lib.hid (TmAt.keep hb hb.size _ _ Hvy.out)
  replace Hvz := Lib.hid (TmAt.keep hb hb.size _ _ Hvz.out)
  replace HS1 := Lib.hid (HS1.out.mono hb.size fun b o hlt h => StrsAt.keep hb _ _ _ hlt h)
  replace HS2 := Lib.hid (HS2.out.mono hb.size fun b o hlt h => StrsAt.keep hb _ _ _ hlt h)
  rw [eqM_refl]
  clear hb
  clear c00 c01 c02 c03 c04 c10 c11 c12 c13 c14
  obtain ⟨c00, c01, c02, c03, c04⟩ := cells5 X5.out
  obtain ⟨c10, c11, c12, c13, c14⟩ := cells5 X7.out
  go_wp2_with fail
  refine (Same_any (canM t) (canM q) _ _ w15 Hvx.out Hvy.out).mono ?_
  rintro e w16 ⟨rfl, hb⟩
  replace HV := Lib.hid (HV.out.trans (hb.mono HV.out.size))
  replace X2 := Lib.hid (bget' hb X2.out)
  replace X3 := Lib.hid (bget' hb X3.out)
  replace X5 := Lib.hid (bget' hb X5.out)
  replace X7 := Lib.hid (bget' hb X7.out)
  replace X9 := Lib.hid (bget' hb X9.out)
  replace HT := Lib.hid (TmAt.keep hb hb.size _ _ HT.out)
  replace HQ := Lib.hid (TmAt.keep hb hb.size _ _ HQ.out)
  replace Hvx := Lib.hid (TmAt.keep hb hb.size _ _ Hvx.out)
  replace Hvy := Lib.hid (TmAt.keep hb hb.size _ _ Hvy.out)
  replace Hvz := Lib.hid (TmAt.keep hb hb.size _ _ Hvz.out)
  replace HS1 := Lib.hid (HS1.out.mono hb.size fun b o hlt h => StrsAt.keep hb _ _ _ hlt h)
  replace HS2 := Lib.hid (HS2.out.mono hb.size fun b o hlt h => StrsAt.keep hb _ _ _ hlt h)
  clear hb
  clear c00 c01 c02 c03 c04 c10 c11 c12 c13 c14
  have hSN := SameNames_any (freeL t) (freeL t) _ _ w16 HS1.out HS2.out HFL
  rw [sameL_refl] at hSN
  have HSN := Lib.hid hSN; clear hSN
  generalize eqM (canM t) (canM q) = bb at *
  cases bb
  · go_wp2_with fail
    refine HSN.out.mono ?_
    rintro e wl ⟨rfl, hb⟩
    replace HV := Lib.hid (HV.out.trans (hb.mono HV.out.size))
    clear hb HSN
    go_wp2_with fail
    refine (known_any _).mono ?_
    rintro e wk ⟨rfl, hb⟩
    replace HV := Lib.hid (HV.out.trans (hb.mono HV.out.size))
    clear hb
    go_wp2
    go_ret
    exact ⟨rfl, HV.out⟩
  · go_wp2_with fail
    refine HSN.out.mono ?_
    rintro e wl ⟨rfl, hb⟩
    replace HV := Lib.hid (HV.out.trans (hb.mono HV.out.size))
    clear hb HSN
    go_wp2_with fail
    refine (known_any _).mono ?_
    rintro e wk ⟨rfl, hb⟩
    replace HV := Lib.hid (HV.out.trans (hb.mono HV.out.size))
    clear hb
    go_wp2
    go_ret
    exact ⟨rfl, HV.out⟩

end Go.Proofs.YtjpahjfjpkbcnaaGreat
