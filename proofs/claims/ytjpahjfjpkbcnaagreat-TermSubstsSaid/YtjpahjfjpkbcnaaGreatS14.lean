/- Contracts of the program's functions. -/
import Derived.Test.YtjpahjfjpkbcnaaGreatS13
import Derived.Test.YtjpahjfjpkbcnaaGreatS09

namespace Go.Proofs.YtjpahjfjpkbcnaaGreat
open Go.Proofs Go.RowKit
mutual
theorem partsM_shf : ∀ (T : Tm) (d c : Int), partsM (d + c) T = (partsM d T).map fun x => (x.1 + c, x.2)
 | .mk op n text kids pats, d, c => by
  unfold partsM
  rw [List.map_cons, ← partssM_shf kids (d + 1) c, show d + c + 1 = d + 1 + c by omega]
theorem partssM_shf : ∀ (ts : List Tm) (d c : Int), partssM (d + c) ts = (partssM d ts).map fun x => (x.1 + c, x.2)
 | [], _, _ => by unfold partssM; rfl
 | t :: ts, d, c => by
  unfold partssM
  rw [List.map_append, ← partsM_shf t d c, ← partssM_shf ts d c]
end
theorem partss_has : ∀ (ts : List Tm) (d : Int) (k : Nat) (hk : k < ts.length), (∀ x ∈ partsM d ts[k], x ∈ partssM d ts) ∧ (partsM d ts[k]).length ≤ (partssM d ts).length
 | [], _, _, hk => absurd hk (by simp)
 | t :: ts, d, 0, _ => by
  unfold partssM
  exact ⟨fun x hx => List.mem_append_left _ hx, by rw [List.length_append]; simp⟩
 | t :: ts, d, k + 1, hk => by
  obtain ⟨h1, h2⟩ := partss_has ts d k (by simpa using hk)
  unfold partssM
  exact ⟨fun x hx => List.mem_append_right _ (h1 x (by simpa using hx)), by rw [List.length_append]; simp only [List.getElem_cons_succ]; omega⟩
abbrev FVs (T : Tm) (x : List UInt8) : Prop := x ∈ frees (fun _ => false) T
mutual
theorem frees_bd : ∀ (T : Tm) (bd : List UInt8 → Bool) (x : List UInt8), x ∈ frees bd T ↔ FVs T x ∧ bd x = false
 | .mk op n text kids pats, bd, x => by
  unfold FVs
  rw [frees_eq, frees_eq (fun _ => false), List.mem_append, List.mem_append]
  have hk := freesK_bd kids bd (boundL (.mk op n text kids pats)) 0 x
  change x ∈ freesK bd (boundL (.mk op n text kids pats)) kids 0 ↔ x ∈ freesK (fun _ => false) (boundL (.mk op n text kids pats)) kids 0 ∧ bd x = false at hk
  show x ∈ (if op = 4 ∧ bd text.toList = false then [text.toList] else []) ∨ x ∈ freesK bd _ kids 0 ↔ (x ∈ (if op = 4 ∧ false = false then [text.toList] else []) ∨ x ∈ freesK (fun _ => false) _ kids 0) ∧ bd x = false
  rw [hk]
  by_cases h4 : op = 4
  ·cases hb : bd text.toList
   ·rw [if_pos ⟨h4, rfl⟩]
    constructor
    ·rintro (h | h)
     ·rw [List.mem_singleton] at h; subst h; exact ⟨.inl (List.mem_singleton.2 rfl), hb⟩
     ·exact ⟨.inr h.1, h.2⟩
    ·rintro ⟨h | h, h2⟩
     ·exact .inl h
     ·exact .inr ⟨h, h2⟩
   ·rw [if_neg (by simp), if_pos ⟨h4, rfl⟩]
    constructor
    ·rintro (h | h)
     ·cases h
     ·exact ⟨.inr h.1, h.2⟩
    ·rintro ⟨h | h, h2⟩
     ·rw [List.mem_singleton] at h; subst h; rw [hb] at h2; cases h2
     ·exact .inr ⟨h, h2⟩
  ·rw [if_neg (fun h => h4 h.1), if_neg (fun h => h4 h.1)]
   simp
theorem freesK_bd : ∀ (ks : List Tm) (bd : List UInt8 → Bool) (bnd : Nat → List ByteArray) (i : Nat) (x : List UInt8), x ∈ freesK bd bnd ks i ↔ x ∈ freesK (fun _ => false) bnd ks i ∧ bd x = false
 | [], _, _, _, _ => by unfold freesK; simp
 | k :: ks, bd, bnd, i, x => by
  rw [freesK_cons, freesK_cons, List.mem_append, List.mem_append, frees_bd k, frees_bd k (fun y => false || _), freesK_bd ks bd bnd (i + 1) x]
  simp only [Bool.or_eq_false_iff, Bool.false_or]
  constructor
  ·rintro (⟨h1, h2, h3⟩ | ⟨h1, h2⟩)
   ·exact ⟨.inl ⟨h1, h3⟩, h2⟩
   ·exact ⟨.inr h1, h2⟩
  ·rintro ⟨⟨h1, h3⟩ | h1, h2⟩
   ·exact .inl ⟨h1, h2, h3⟩
   ·exact .inr ⟨h1, h2⟩
end
theorem mem_freesK (bnd : Nat → List ByteArray) : ∀ (ks : List Tm) (i : Nat) (x : List UInt8), x ∈ freesK (fun _ => false) bnd ks i ↔ ∃ j, ∃ h : j < ks.length, FVs ks[j] x ∧ inL (bnd (i + j)) x = false
 | [], _, _ => by unfold freesK; simp
 | k :: ks, i, x => by
  rw [freesK_cons, List.mem_append, frees_bd k, mem_freesK bnd ks (i + 1) x]
  constructor
  ·rintro (⟨h1, h2⟩ | ⟨j, h, h1, h2⟩)
   ·exact ⟨0, by simp, h1, by simpa [inL] using h2⟩
   ·exact ⟨j + 1, by simpa using h, by simpa using h1, by rw [show i + (j + 1) = i + 1 + j by omega]; exact h2⟩
  ·rintro ⟨j, h, h1, h2⟩
   cases j with
   | zero => exact .inl ⟨by simpa using h1, by simpa [inL] using h2⟩
   | succ j => exact .inr ⟨j, by simpa using h, by simpa using h1, by rw [show i + 1 + j = i + (j + 1) by omega]; exact h2⟩
theorem FVs_node (T : Tm) (x : List UInt8) : FVs T x ↔ (T.op = 4 ∧ T.text.toList = x) ∨ ∃ i, ∃ h : i < T.kids.length, FVs T.kids[i] x ∧ inL (boundL T i) x = false := by
 unfold FVs
 rw [frees_eq, List.mem_append, mem_freesK]
 have : (x ∈ if T.op = 4 ∧ (fun _ : List UInt8 => false) T.text.toList = false then [T.text.toList] else []) ↔ T.op = 4 ∧ T.text.toList = x := by
  by_cases h4 : T.op = 4
  ·rw [if_pos ⟨h4, rfl⟩, List.mem_singleton]
   exact ⟨(fun h => ⟨h4, h.symm⟩), (fun h => h.2.symm)⟩
  ·rw [if_neg (fun h => h4 h.1)]
   exact ⟨(fun h => by cases h), (fun h => absurd h.1 h4)⟩
 rw [this]
 simp only [Nat.zero_add]
theorem inL_append (xs ys : List ByteArray) (x : List UInt8) : inL (xs ++ ys) x = (inL xs x || inL ys x) := List.any_append
theorem inL_bndL (T : Tm) (x : List UInt8) : ∀ (n i : Nat), i < n → inL (boundL T i) x = true → inL (bndL T n) x = true
 | n + 1, i, h, hx => by
  unfold bndL
  rw [inL_append]
  by_cases hi : i < n
  ·rw [inL_bndL T x n i hi hx]; rfl
  ·obtain rfl : i = n := by omega
   rw [hx, Bool.or_true]
theorem inL_standLs (x : List UInt8) : ∀ (ts : List Tm) (t : Tm), t ∈ ts → inL (standN t) x = true → inL (standLs ts) x = true
 | u :: ts, t, h, hx => by
  unfold standLs
  rw [inL_append]
  rcases List.mem_cons.1 h with rfl | h
  ·rw [hx]; rfl
  ·rw [inL_standLs x ts t h hx, Bool.or_true]
theorem inL_standLs' (x : List UInt8) : ∀ (ts : List Tm), inL (standLs ts) x = true → ∃ t ∈ ts, inL (standN t) x = true
 | [], h => by simp [standLs, inL] at h
 | u :: ts, h => by
  unfold standLs at h
  rw [inL_append, Bool.or_eq_true] at h
  rcases h with h | h
  ·exact ⟨u, List.mem_cons_self, h⟩
  ·obtain ⟨t, ht, hx⟩ := inL_standLs' x ts h
   exact ⟨t, List.mem_cons_of_mem _ ht, hx⟩
theorem stand_self (T : Tm) (x : List UInt8) (h : inL (standN T) x = true) : inL (standL T) x = true :=
 inL_standLs x _ T (by rw [partsM_eq]; exact List.mem_cons_self) h
theorem stand_op (T : Tm) (h : T.op = 4) : inL (standL T) T.text.toList = true := stand_self T _ (by unfold standN; rw [if_pos h, inL_append]; simp [inL])
theorem stand_bnd (T : Tm) (i : Nat) (hi : i < T.kids.length) (x : List UInt8) (h : inL (boundL T i) x = true) : inL (standL T) x = true :=
 stand_self T _ (by unfold standN; rw [inL_append, inL_bndL T x _ i hi h, Bool.or_true])
theorem stand_kid (T : Tm) (i : Nat) (hi : i < T.kids.length) (x : List UInt8) (h : inL (standL T.kids[i]) x = true) : inL (standL T) x = true := by
 obtain ⟨t, ht, hx⟩ := inL_standLs' x _ h
 obtain ⟨y, hy, rfl⟩ := List.mem_map.1 ht
 refine inL_standLs x _ y.2 ?_ hx
 rw [partsM_eq, List.map_cons]
 refine List.mem_cons_of_mem _ ?_
 have e : partsM 2 T.kids[i] = (partsM 1 T.kids[i]).map fun x => (x.1 + 1, x.2) := partsM_shf T.kids[i] 1 1
 have hm : (y.1 + 1, y.2) ∈ partsM 2 T.kids[i] := by rw [e]; exact List.mem_map_of_mem (f := fun x : Int × Tm => (x.1 + 1, x.2)) hy
 exact List.mem_map_of_mem (f := fun x : Int × Tm => x.2) (a := (y.1 + 1, y.2)) ((partss_has T.kids 2 i hi).1 (y.1 + 1, y.2) hm)
def rnL : Sc → List UInt8 → List UInt8
 | [], y => y
 | (n, s) :: sc, y => if n.toList == y then s.toList else rnL sc y
theorem rnL_find : ∀ (sc : Sc) (t : ByteArray), rnL sc t.toList = ((findS sc t).getD t).toList
 | [], _ => rfl
 | (n, s) :: sc, t => by
  unfold rnL findS
  split
  ·rfl
  ·exact rnL_find sc t
theorem rnL_skip : ∀ (bs os : List ByteArray) (sc : Sc) (y : List UInt8), os.length = bs.length → inL bs y = false → rnL (pushS bs os sc) y = rnL sc y
 | [], [], _, _, _, _ => rfl
 | b :: bs, o :: os, sc, y, hl, h => by
  have h2 : b.toList ≠ y ∧ inL bs y = false := by simpa [inL] using h
  rw [pushS_cons, rnL_skip bs os _ y (by simpa using hl) h2.2]
  conv => lhs; unfold rnL
  rw [if_neg (by simpa using h2.1)]
theorem rnL_out : ∀ (bs os : List ByteArray) (sc : Sc) (y : List UInt8), os.length = bs.length → inL bs y = true → ∃ p ∈ bs.zip os, p.1.toList = y ∧ rnL (pushS bs os sc) y = p.2.toList
 | b :: bs, o :: os, sc, y, hl, h => by
  rw [pushS_cons]
  by_cases h2 : inL bs y = true
  ·obtain ⟨p, hp, h3⟩ := rnL_out bs os ((b, o) :: sc) y (by simpa using hl) h2
   exact ⟨p, List.mem_cons_of_mem _ hp, h3⟩
  ·have h3 : b.toList = y := by
    unfold inL at h h2
    rw [List.any_cons, Bool.or_eq_true] at h
    rcases h with h | h
    ·simpa using h
    ·exact absurd h h2
   refine ⟨(b, o), List.mem_cons_self, h3, ?_⟩
   rw [rnL_skip bs os _ y (by simpa using hl) (by simpa using h2)]
   conv => lhs; unfold rnL
   rw [if_pos (by simpa using h3)]
theorem zip_self {α : Type} : ∀ (xs : List α) (p : α × α), p ∈ xs.zip xs → p.1 = p.2
 | x :: xs, p, h => by
  rw [List.zip_cons_cons] at h
  rcases List.mem_cons.1 h with rfl | h
  ·rfl
  ·exact zip_self xs p h
theorem rnL_id (bs : List ByteArray) (sc : Sc) (y : List UInt8) (h : inL bs y = true) : rnL (pushS bs bs sc) y = y := by
 obtain ⟨p, hp, h1, h2⟩ := rnL_out bs bs sc y rfl h
 rw [h2, ← zip_self bs p hp, h1]
abbrev outC (ch : Ch) (σ : NS) (sc : Sc) (T : Tm) (i : Nat) : List ByteArray := (chL ch (scp ch (boundL T) sc σ i).2 (boundL T i)).1
theorem outC_len (ch : Ch) (σ : NS) (sc : Sc) (T : Tm) (i : Nat) : (outC ch σ sc T i).length = (boundL T i).length := chL_len _ _ _
abbrev nodeC (ch : Ch) (σ : NS) (sc : Sc) (T : Tm) (ks : List Tm) : Tm := .mk T.op T.n (if T.op = 4 then (findS sc T.text).getD T.text else rebText T (scp ch (boundL T) sc σ T.kids.length).1) ks (rebPats T (scp ch (boundL T) sc σ T.kids.length).1)
theorem bound_node (ch : Ch) (σ : NS) (sc : Sc) (T : Tm) (ks : List Tm) (hs : shapeT T) (hp : ∀ p ∈ T.pats, ((namesP p).map (·.toList)).Nodup) (i : Nat) (hi : i < T.kids.length) : boundL (nodeC ch σ sc T ks) i = outC ch σ sc T i := by
 have renM_op : (nodeC ch σ sc T ks).op = T.op := rfl
 have renM_text : (nodeC ch σ sc T ks).text = if T.op = 4 then (findS sc T.text).getD T.text else rebText T (scp ch (boundL T) sc σ T.kids.length).1 := rfl
 have renM_pats : (nodeC ch σ sc T ks).pats = rebPats T (scp ch (boundL T) sc σ T.kids.length).1 := rfl
 obtain ⟨s5, s7, s15⟩ := hs
 have hol := outC_len ch σ sc T i
 have hsc := fun i h => scp_getD ch (boundL T) sc σ T.kids.length i h
 by_cases h5 : T.op = 5 ∨ T.op = 27
 ·have hk := s5 h5
  obtain rfl : i = 0 := by omega
  have hb : boundL T 0 = [T.text] := by unfold boundL; rw [if_pos (by omega)]
  have hb' : boundL (nodeC ch σ sc T ks) 0 = [(nodeC ch σ sc T ks).text] := by unfold boundL; rw [renM_op, if_pos (by omega)]
  rw [hb', renM_text, if_neg (by omega)]
  unfold rebText
  rw [if_pos (by omega), hk, show 1 - 1 = 0 from rfl, ← hk, hsc 0 (by omega)]
  show [asOf (pushS (boundL T 0) (outC ch σ sc T 0) sc)] = outC ch σ sc T 0
  generalize outC ch σ sc T 0 = os at *
  rw [hb] at hol ⊢
  exact text_out _ _ _ hol
 by_cases h7 : T.op = 7
 ·have hk := s7 h7
  by_cases h0 : i = 0
  ·subst h0
   have hb : boundL T 0 = [] := by unfold boundL; rw [if_neg (by omega), if_neg (by omega)]
   have hb' : boundL (nodeC ch σ sc T ks) 0 = [] := by unfold boundL; rw [renM_op, if_neg (by omega), if_neg (by omega)]
   rw [hb'] ; rw [hb] at hol
   exact (List.eq_nil_of_length_eq_zero hol).symm
  ·obtain rfl : i = 1 := by omega
   have hb : boundL T 1 = [T.text] := by unfold boundL; rw [if_pos (by omega)]
   have hb' : boundL (nodeC ch σ sc T ks) 1 = [(nodeC ch σ sc T ks).text] := by unfold boundL; rw [renM_op, if_pos (by omega)]
   rw [hb', renM_text, if_neg (by omega)]
   unfold rebText
   rw [if_pos (by omega), hk, show 2 - 1 = 1 from rfl, ← hk, hsc 1 (by omega)]
   show [asOf (pushS (boundL T 1) (outC ch σ sc T 1) sc)] = outC ch σ sc T 1
   generalize outC ch σ sc T 1 = os at *
   rw [hb] at hol ⊢
   exact text_out _ _ _ hol
 by_cases h15 : T.op = 15 ∧ 0 < i
 ·have hb : boundL T i = (T.pats[i - 1]?.map namesP).getD [] := by unfold boundL; rw [if_neg (by omega), if_pos h15]
  have hb' : boundL (nodeC ch σ sc T ks) i = ((nodeC ch σ sc T ks).pats[i - 1]?.map namesP).getD [] := by unfold boundL; rw [renM_op, if_neg (by omega), if_pos h15]
  rw [hb', renM_pats, rebPats_at _ _ h15.1, show i - 1 + 1 = i by omega, hsc i hi]
  cases hq : T.pats[i - 1]? with
  | none =>
   rw [hq] at hb
   rw [hb] at hol
   exact (List.eq_nil_of_length_eq_zero hol).symm
  | some p =>
   rw [hq] at hb
   change boundL T i = namesP p at hb
   show namesP (renP _ p) = _
   have hmem : p ∈ T.pats := List.mem_of_getElem? hq
   have hnd := hp p hmem
   rw [namesP_ren]
   conv => lhs; rw [hb]
   rw [hb] at hol
   unfold outC at *
   rw [hb]
   rw [hb] at hol
   exact find_push _ _ _ hol hnd
 ·have hb : boundL T i = [] := by unfold boundL; rw [if_neg (by omega), if_neg h15]
  have hb' : boundL (nodeC ch σ sc T ks) i = [] := by unfold boundL; rw [renM_op, if_neg (by omega), if_neg h15]
  rw [hb']; rw [hb] at hol
  exact (List.eq_nil_of_length_eq_zero hol).symm
theorem renM_node (ch : Ch) (σ : NS) (sc : Sc) (T : Tm) : (renM ch σ sc T).1 = nodeC ch σ sc T (renK ch (scp ch (boundL T) sc σ T.kids.length).2 (scp ch (boundL T) sc σ T.kids.length).1 T.kids).1 := by rw [renM_eq]
theorem chL_same : ∀ (ss : List ByteArray) (σ : NS), chL chSame σ ss = (ss, σ)
 | [], _ => rfl
 | s :: ss, σ => by
  unfold chL
  rw [show chSame σ s = (s, σ) from rfl]
  simp only
  rw [chL_same ss σ]
theorem scp_same (bnd : Nat → List ByteArray) (sc : Sc) (σ : NS) : ∀ n, (scp chSame bnd sc σ n).2 = σ
 | 0 => rfl
 | n + 1 => by
  unfold scp
  rw [scp_same bnd sc σ n, chL_same]
theorem scp_sameD (bnd : Nat → List ByteArray) (sc : Sc) (σ : NS) (n i : Nat) (h : i < n) : (scp chSame bnd sc σ n).1.getD i [] = pushS (bnd i) (bnd i) sc := by
 rw [scp_getD _ _ _ _ _ i h, scp_same, chL_same]
theorem outC_same (σ : NS) (sc : Sc) (T : Tm) (i : Nat) : outC chSame σ sc T i = boundL T i := by
 unfold outC
 rw [scp_same, chL_same]
abbrev NdP (d : Int) (T : Tm) : Prop := ∀ x ∈ partsM d T, ∀ p ∈ x.2.pats, ((namesP p).map (·.toList)).Nodup
abbrev NdPs (d : Int) (ts : List Tm) : Prop := ∀ x ∈ partssM d ts, ∀ p ∈ x.2.pats, ((namesP p).map (·.toList)).Nodup
theorem same_nodup (σ : NS) (sc : Sc) (T : Tm) (ks : List Tm) (hs : shapeT T) (hp : ∀ p ∈ T.pats, ((namesP p).map (·.toList)).Nodup) : ∀ p ∈ (nodeC chSame σ sc T ks).pats, ((namesP p).map (·.toList)).Nodup := by
 intro p hpm
 change p ∈ rebPats T (scp chSame (boundL T) sc σ T.kids.length).1 at hpm
 by_cases h15 : T.op = 15
 ·obtain ⟨i, hi, rfl⟩ := List.getElem_of_mem hpm
  have hi' : i < T.pats.length := by rw [rebPats_len h15] at hi; exact hi
  have he := rebPats_at T (scp chSame (boundL T) sc σ T.kids.length).1 h15 i
  have hik : i + 1 < T.kids.length := by have := hs.2.2 h15; omega
  rw [List.getElem?_eq_getElem hi, List.getElem?_eq_getElem hi', Option.map_some, scp_sameD _ _ _ _ _ hik] at he
  rw [Option.some.inj he]
  have hb : boundL T (i + 1) = namesP T.pats[i] := by
   unfold boundL
   rw [if_neg (by omega), if_pos ⟨h15, by omega⟩, show i + 1 - 1 = i by omega, List.getElem?_eq_getElem hi']
   rfl
  have hnd := hp _ (List.getElem_mem hi')
  rw [hb, namesP_ren, find_push _ _ _ rfl hnd]
  exact hnd
 ·rw [rebPats_no h15] at hpm
  cases hpm
mutual
theorem same_M : ∀ (T : Tm) (d : Int) (σ : NS) (sc : Sc), okS T → NdP d T → (∀ y, rnL sc y = y ∨ inL (standL T) (rnL sc y) = false) →
  (renM chSame σ sc T).2 = σ ∧ NdP d (renM chSame σ sc T).1 ∧ ∀ x, FVs (renM chSame σ sc T).1 x ↔ ∃ y, FVs T y ∧ rnL sc y = x
 | .mk op n text kids pats, d, σ, sc, hok, hf, hr => by
  have h1 := hf (d, .mk op n text kids pats) (by rw [partsM_eq]; exact List.mem_cons_self)
  have h0 := okS_top hok
  have hoks : okSs kids := by unfold okS at hok; exact hok.2
  have hsc := scp_sameD (boundL (.mk op n text kids pats)) sc σ kids.length
  have hscp := scp_same (boundL (.mk op n text kids pats)) sc σ kids.length
  obtain ⟨k1, k2, k4, k3⟩ := same_K kids (d + 1) σ (scp chSame (boundL (.mk op n text kids pats)) sc σ kids.length).1 hoks (fun x hx => hf x (by rw [partsM_eq]; exact List.mem_cons_of_mem _ hx)) (fun j hj y => by
   rw [hsc j hj]
   cases hb : inL (boundL (.mk op n text kids pats) j) y
   ·rw [rnL_skip _ _ _ _ rfl hb]
    rcases hr y with h | h
    ·exact .inl h
    ·refine .inr ?_
     cases hs : inL (standL kids[j]) (rnL sc y)
     ·rfl
     ·rw [stand_kid (.mk op n text kids pats) j hj _ hs] at h; cases h
   ·exact .inl (rnL_id _ _ _ hb))
  have hst : (renM chSame σ sc (.mk op n text kids pats)).2 = σ := by
   rw [renM_eq]
   show (renK chSame (scp chSame (boundL (.mk op n text kids pats)) sc σ kids.length).2 (scp chSame (boundL (.mk op n text kids pats)) sc σ kids.length).1 kids).2 = σ
   rw [hscp]
   exact k1
  have hnode : (renM chSame σ sc (.mk op n text kids pats)).1 = nodeC chSame σ sc (.mk op n text kids pats) (renK chSame σ (scp chSame (boundL (.mk op n text kids pats)) sc σ kids.length).1 kids).1 := by
   rw [renM_node]
   show nodeC chSame σ sc (.mk op n text kids pats) (renK chSame (scp chSame (boundL (.mk op n text kids pats)) sc σ kids.length).2 _ kids).1 = _
   rw [hscp]
   rfl
  rw [hnode]
  refine ⟨hst, fun x hx => ?_, fun x => ?_⟩
  ·rw [partsM_eq] at hx
   rcases List.mem_cons.1 hx with rfl | hx
   ·exact same_nodup σ sc _ _ h0 h1
   ·exact k4 x hx
  have hbd : ∀ i, i < kids.length → boundL (nodeC chSame σ sc (.mk op n text kids pats) (renK chSame σ (scp chSame (boundL (.mk op n text kids pats)) sc σ kids.length).1 kids).1) i = boundL (.mk op n text kids pats) i := fun i hi => by
   rw [bound_node _ _ _ _ _ h0 h1 i hi, outC_same]
  rw [FVs_node]
  constructor
  ·rintro (⟨h4, h5⟩ | ⟨i, hi, h1', h2⟩)
   ·have h4' : op = 4 := h4
    refine ⟨text.toList, (FVs_node _ _).2 (.inl ⟨h4', rfl⟩), ?_⟩
    rw [rnL_find, ← h5]
    show _ = (if op = 4 then (findS sc text).getD text else _).toList
    rw [if_pos h4']
   ·have hi' : i < kids.length := by rw [← k2]; exact hi
    rw [hbd i hi'] at h2
    obtain ⟨y, hy1, hy2⟩ := (k3 i hi' hi x).1 h1'
    rw [hsc i hi'] at hy2
    cases hb : inL (boundL (.mk op n text kids pats) i) y
    ·rw [rnL_skip _ _ _ _ rfl hb] at hy2
     exact ⟨y, (FVs_node _ _).2 (.inr ⟨i, hi', hy1, hb⟩), hy2⟩
    ·rw [rnL_id _ _ _ hb] at hy2
     subst hy2
     rw [hb] at h2; cases h2
  ·rintro ⟨y, hy, rfl⟩
   rcases (FVs_node _ _).1 hy with ⟨h4, rfl⟩ | ⟨i, hi, h1, h2⟩
   ·have h4' : op = 4 := h4
    refine .inl ⟨h4', ?_⟩
    show (if op = 4 then (findS sc text).getD text else _).toList = rnL sc text.toList
    rw [if_pos h4', rnL_find]
   ·have hi' : i < kids.length := hi
    refine .inr ⟨i, by rw [← k2] at hi'; exact hi', ?_, ?_⟩
    ·exact (k3 i hi' _ _).2 ⟨y, h1, by rw [hsc i hi', rnL_skip _ _ _ _ rfl h2]⟩
    ·rw [hbd i hi']
     rcases hr y with h | h
     ·rw [h]; exact h2
     ·cases hs : inL (boundL (.mk op n text kids pats) i) (rnL sc y)
      ·rfl
      ·rw [stand_bnd (.mk op n text kids pats) i hi' _ hs] at h; cases h
theorem same_K : ∀ (ks : List Tm) (d : Int) (σ : NS) (scs : List Sc), okSs ks → NdPs d ks → (∀ j (hj : j < ks.length), ∀ y, rnL (scs.getD j []) y = y ∨ inL (standL ks[j]) (rnL (scs.getD j []) y) = false) →
  (renK chSame σ scs ks).2 = σ ∧ (renK chSame σ scs ks).1.length = ks.length ∧ NdPs d (renK chSame σ scs ks).1 ∧ ∀ j (hj : j < ks.length) (hj' : j < (renK chSame σ scs ks).1.length) x, FVs (renK chSame σ scs ks).1[j] x ↔ ∃ y, FVs ks[j] y ∧ rnL (scs.getD j []) y = x
 | [], d, σ, scs, _, hf, _ => by
  have e : renK chSame σ scs [] = ([], σ) := by unfold renK; rfl
  rw [e]
  exact ⟨rfl, rfl, hf, fun j hj => absurd hj (by simp)⟩
 | k :: ks, d, σ, scs, hok, hf, hr => by
  unfold okSs at hok
  have hh : scs.headD [] = scs.getD 0 [] := by cases scs <;> rfl
  have ht : ∀ j, scs.tail.getD j [] = scs.getD (j + 1) [] := fun j => by cases scs <;> simp
  obtain ⟨a1, a3, a2⟩ := same_M k d σ (scs.headD []) hok.1 (fun x hx => hf x (by rw [partssM_cons]; exact List.mem_append_left _ hx)) (fun y => by rw [hh]; exact hr 0 (by simp) y)
  obtain ⟨b1, b2, b4, b3⟩ := same_K ks d σ scs.tail hok.2 (fun x hx => hf x (by rw [partssM_cons]; exact List.mem_append_right _ hx)) (fun j hj y => by rw [ht]; exact hr (j + 1) (by simpa using hj) y)
  have e : renK chSame σ scs (k :: ks) = ((renM chSame σ (scs.headD []) k).1 :: (renK chSame σ scs.tail ks).1, (renK chSame σ scs.tail ks).2) := by rw [renK_cons, a1]
  rw [e]
  refine ⟨b1, by simp [b2], fun x hx => ?_, fun j hj hj' x => ?_⟩
  ·rw [partssM_cons] at hx
   rcases List.mem_append.1 hx with hx | hx
   ·exact a3 x hx
   ·exact b4 x hx
  cases j with
  | zero => rw [← hh]; exact a2 x
  | succ j =>
   have := b3 j (by simpa using hj) (by simpa using hj') x
   rw [ht] at this
   exact this
end
theorem Fr.mono {FV : List UInt8 → Bool} {σ : NS} {c c' : Nat} (h : Fr FV σ c) (hc : c' ≤ c) : Fr FV σ c' := by
 obtain ⟨h1, l, h2, h3⟩ := h
 exact ⟨h1, l, by omega, h3⟩
def Cho (fr : List ByteArray) (FV : List UInt8 → Bool) (p : ByteArray × ByteArray) : Prop := (p.2 = p.1 ∧ hasL fr p.1 = false) ∨ FV p.2.toList = false
theorem Fr.some {fr : List ByteArray} {FV : List UInt8 → Bool} : ∀ (ss : List ByteArray) (σ : NS) (c : Nat), Fr FV σ (ss.length + c) →
  (∀ p ∈ ss.zip (chL (chSome fr) σ ss).1, Cho fr FV p) ∧ Fr FV (chL (chSome fr) σ ss).2 c
 | [], σ, c, h => ⟨fun p hp => by simp at hp, by simpa [chL] using h⟩
 | s :: ss, σ, c, h => by
  rw [List.length_cons, show ss.length + 1 + c = ss.length + c + 1 by omega] at h
  unfold chL
  by_cases hs : hasL fr s = true
  ·have e : chSome fr σ s = chNew σ s := by unfold chSome; rw [if_pos hs]; rfl
   obtain ⟨h1, h2, h3, h4⟩ := h.step s
   obtain ⟨i1, i2⟩ := Fr.some (fr := fr) ss _ c h4
   rw [e]
   refine ⟨fun p hp => ?_, i2⟩
   rw [List.zip_cons_cons] at hp
   rcases List.mem_cons.1 hp with rfl | hp
   ·exact .inr h3
   ·exact i1 p hp
  ·have e : chSome fr σ s = (s, σ) := by unfold chSome; rw [if_neg hs]
   obtain ⟨i1, i2⟩ := Fr.some (fr := fr) ss σ c (h.mono (by omega))
   rw [e]
   refine ⟨fun p hp => ?_, i2⟩
   rw [List.zip_cons_cons] at hp
   rcases List.mem_cons.1 hp with rfl | hp
   ·exact .inl ⟨rfl, by simpa using hs⟩
   ·exact i1 p hp
theorem Fr.somes {fr : List ByteArray} {FV : List UInt8 → Bool} (bnd : Nat → List ByteArray) (sc : Sc) (σ : NS) : ∀ (n c : Nat), Fr FV σ (bndK bnd n + c) →
  (∀ i, i < n → ∀ p ∈ (bnd i).zip (chL (chSome fr) (scp (chSome fr) bnd sc σ i).2 (bnd i)).1, Cho fr FV p) ∧ Fr FV (scp (chSome fr) bnd sc σ n).2 c
 | 0, c, h => ⟨fun i hi => absurd hi (by omega), by simpa [bndK, scp] using h⟩
 | n + 1, c, h => by
  unfold bndK at h
  rw [Nat.add_assoc] at h
  obtain ⟨h1, h2⟩ := Fr.somes (fr := fr) bnd sc σ n _ h
  obtain ⟨i1, i2⟩ := Fr.some (fr := fr) _ _ _ h2
  refine ⟨fun i hi => ?_, i2⟩
  by_cases hin : i < n
  ·exact h1 i hin
  ·obtain rfl : i = n := by omega
   exact i1
theorem hasL_inL (ss : List ByteArray) (s : ByteArray) : hasL ss s = inL ss s.toList := by
 unfold hasL inL
 congr 1
 funext x
 exact Bool.beq_comm
theorem mem_freeL (T : Tm) (x : List UInt8) : inL (freeL T) x = true ↔ FVs T x := by
 constructor
 ·intro h
  unfold inL freeL at h
  rw [List.any_eq_true] at h
  obtain ⟨s, hs, he⟩ := h
  obtain ⟨y, hy, rfl⟩ := List.mem_map.1 hs
  have h1 : y ∈ frees (fun _ => false) T := (mem_dd _ _).1 (List.mem_mergeSort.1 hy)
  have h2 : (bytesArr y).toList = y := by rw [ByteArray.toList_eq]; unfold bytesArr; simp
  rw [h2] at he
  have h3 : y = x := by simpa using he
  exact h3 ▸ h1
 ·exact inL_freeL T x
theorem zip_mem_right : ∀ (bs os : List ByteArray) (o : ByteArray), os.length = bs.length → o ∈ os → ∃ b, (b, o) ∈ bs.zip os
 | [], [], o, _, h => by cases h
 | b :: bs, o' :: os, o, hl, h => by
  rcases List.mem_cons.1 h with rfl | h
  ·exact ⟨b, List.mem_cons_self⟩
  ·obtain ⟨b', hb⟩ := zip_mem_right bs os o (by simpa using hl) h
   exact ⟨b', List.mem_cons_of_mem _ hb⟩
theorem inL_mem {ss : List ByteArray} {x : List UInt8} (h : inL ss x = true) : ∃ s ∈ ss, s.toList = x := by
 unfold inL at h
 rw [List.any_eq_true] at h
 obtain ⟨s, hs, he⟩ := h
 exact ⟨s, hs, by simpa using he⟩
theorem mem_inL {ss : List ByteArray} {s : ByteArray} (h : s ∈ ss) : inL ss s.toList = true := by
 unfold inL
 rw [List.any_eq_true]
 exact ⟨s, h, by simp⟩
theorem find_bnd (bs os : List ByteArray) (s : ByteArray) (hl : os.length = bs.length) : (findS (pushS bs os []) s).isSome = inL bs s.toList := by
 rw [findS_bd, bdOf_push bs os [] hl]
 unfold bdOf inL
 simp
theorem pats_of_fits {T : Tm} (h : T.fits = true) : T.op ≠ 15 → T.pats = [] := fun h15 => by
 unfold Tm.fits patsFitB at h
 simp only [Bool.and_eq_true] at h
 have := h.2
 rw [if_neg h15] at this
 exact List.eq_nil_of_length_eq_zero (of_decide_eq_true this)
end Go.Proofs.YtjpahjfjpkbcnaaGreat
