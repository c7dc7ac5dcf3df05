/- Contracts of the program's functions. -/
import Derived.Test.YtjpahjfjpkbcnaaGreatB09
import Derived.Test.YtjpahjfjpkbcnaaGreatB11
import Derived.Test.YtjpahjfjpkbcnaaGreatB10
import Derived.Test.YtjpahjfjpkbcnaaGreatB12

namespace Go.Proofs.YtjpahjfjpkbcnaaGreat
open Go.Proofs Go.RowKit
theorem bytes_ext {a b : ByteArray} (h : a.toList = b.toList) : a = b := by
 rw [ByteArray.toList_eq, ByteArray.toList_eq] at h
 have := Array.toList_inj.1 h
 cases a; cases b
 simp_all
theorem pushS_cons (n o : ByteArray) (ns outs : List ByteArray) (sc : Sc) : pushS (n :: ns) (o :: outs) sc = pushS ns outs ((n, o) :: sc) := by
 unfold pushS
 simp
theorem find_skip : ∀ (ns outs : List ByteArray) (sc : Sc) (k : ByteArray), outs.length = ns.length → (∀ n ∈ ns, n.toList ≠ k.toList) → findS (pushS ns outs sc) k = findS sc k
 | [], [], _, _, _, _ => rfl
 | n :: ns, o :: outs, sc, k, hl, h => by
  rw [pushS_cons, find_skip ns outs _ k (by simpa using hl) fun m hm => h m (List.mem_cons_of_mem _ hm)]
  have := h n List.mem_cons_self
  conv => lhs; unfold findS
  rw [if_neg (by simpa using this)]
theorem find_push : ∀ (ns outs : List ByteArray) (sc : Sc), outs.length = ns.length → (ns.map (·.toList)).Nodup → ns.map (fun t => (findS (pushS ns outs sc) t).getD t) = outs
 | [], [], _, _, _ => rfl
 | n :: ns, o :: outs, sc, hl, h => by
  rw [List.map_cons, List.nodup_cons] at h
  rw [pushS_cons, List.map_cons, find_push ns outs _ (by simpa using hl) h.2, find_skip ns outs _ n (by simpa using hl) fun m hm e => h.1 (by rw [← e]; exact List.mem_map_of_mem (f := fun s : ByteArray => s.toList) hm)]
  conv => lhs; unfold findS
  simp
theorem partsP_mk (f n : Int) (t : ByteArray) (ps : List Pt) (d : Int) : partsP d (.mk f n t ps) = (d, .mk f n t ps) :: partssP (d + 1) ps := by
 conv => lhs; unfold partsP
theorem renP_mk (sc : Sc) (f n : Int) (t : ByteArray) (ps : List Pt) : renP sc (.mk f n t ps) = .mk f n (if f = 2 then (findS sc t).getD t else t) (renPs sc ps) := by
 conv => lhs; unfold renP
theorem diffM_nodup : ∀ (ss : List ByteArray) (met : List UInt8 → Bool), diffM met ss = true ↔ (∀ s ∈ ss, met s.toList = false) ∧ (ss.map (·.toList)).Nodup
 | [], _ => by simp [diffM]
 | s :: ss, met => by
  rw [diffM_cons, Bool.and_eq_true, diffM_nodup ss, List.map_cons, List.nodup_cons]
  simp only [Bool.not_eq_true', Bool.or_eq_false_iff, List.mem_cons, List.mem_map, not_exists, not_and, beq_eq_false_iff_ne]
  constructor
  ·rintro ⟨h1, h2, h3⟩
   exact ⟨fun x hx => hx.elim (fun e => e ▸ h1) fun hx => (h2 x hx).1, fun x hx e => (h2 x hx).2 e, h3⟩
  ·rintro ⟨h1, h2, h3⟩
   exact ⟨h1 s (.inl rfl), fun x hx => ⟨h1 x (.inr hx), fun e => h2 x hx e⟩, h3⟩
theorem patB_iff (p : Pt) : patB p = true ↔ (partsP 1 p).length ≤ 12 ∧ (∀ q ∈ (partsP 1 p).map (·.2), q.fits = true) ∧ ((namesP p).map (·.toList)).Nodup := by
 unfold patB
 rw [goP_eq _ 0 _ (by omega), Bool.and_eq_true, Bool.and_eq_true, decide_eq_true_iff, List.all_eq_true, diffM_nodup]
 unfold namesP
 simp only [List.length_map, Nat.zero_add]
 constructor
 ·rintro ⟨⟨h1, h2⟩, -, h3⟩; exact ⟨h1, h2, h3⟩
 ·rintro ⟨h1, h2, h3⟩; exact ⟨⟨h1, h2⟩, by simp, h3⟩
theorem chL_new : ∀ (ss ss' : List ByteArray) (σ : NS), ss.length = ss'.length → chL chNew σ ss = chL chNew σ ss'
 | [], [], _, _ => rfl
 | s :: ss, s' :: ss', σ, h => by
  have := chL_new ss ss' (chNew σ s').2 (by simpa using h)
  simp only [chL]
  rw [show chNew σ s = chNew σ s' from rfl, this]
theorem scp_new (bnd bnd' : Nat → List ByteArray) (sc sc' : Sc) (σ : NS) : ∀ n, (∀ i, i < n → (bnd i).length = (bnd' i).length) → (scp chNew bnd sc σ n).2 = (scp chNew bnd' sc' σ n).2
 | 0, _ => rfl
 | n + 1, h => by
  have ih := scp_new bnd bnd' sc sc' σ n fun i hi => h i (by omega)
  unfold scp
  simp only
  rw [ih, chL_new _ _ _ (h n (by omega))]
theorem scp_getD (ch : Ch) (bnd : Nat → List ByteArray) (sc : Sc) (σ : NS) (n i : Nat) (h : i < n) : (scp ch bnd sc σ n).1.getD i [] = pushS (bnd i) (chL ch (scp ch bnd sc σ i).2 (bnd i)).1 sc := by
 rw [List.getD_eq_getElem?_getD, List.getElem?_eq_getElem (by rw [scp_len]; exact h), Option.getD_some, scp_get ch bnd sc σ n i h]
theorem rebPats_no {T : Tm} {scs : List Sc} (h : T.op ≠ 15) : rebPats T scs = [] := by unfold rebPats; rw [if_neg h]
theorem renK_cons (ch : Ch) (σ : NS) (scs : List Sc) (k : Tm) (ks : List Tm) : renK ch σ scs (k :: ks) = ((renM ch σ (scs.headD []) k).1 :: (renK ch (renM ch σ (scs.headD []) k).2 scs.tail ks).1, (renK ch (renM ch σ (scs.headD []) k).2 scs.tail ks).2) := by
 conv => lhs; unfold renK
theorem partsM_eq (T : Tm) (d : Int) : partsM d T = (d, T) :: partssM (d + 1) T.kids := by
 cases T
 conv => lhs; unfold partsM
 rfl
theorem partssM_cons (t : Tm) (ts : List Tm) (d : Int) : partssM d (t :: ts) = partsM d t ++ partssM d ts := by conv => lhs; unfold partssM
end Go.Proofs.YtjpahjfjpkbcnaaGreat
