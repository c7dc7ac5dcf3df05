/- Contracts of the program's functions. -/
import Derived.Test.YtjpahjfjpkbcnaaGreatB13
import Derived.Test.YtjpahjfjpkbcnaaGreatB09

namespace Go.Proofs.YtjpahjfjpkbcnaaGreat
open Go.Proofs Go.RowKit
mutual
theorem partsM_shf : ∀ (T : Tm) (d c : Int), partsM (d + c) T = (partsM d T).map fun x => (x.1 + c, x.2)
 | .mk op n text kids pats, d, c => by
  unfold partsM
  rw [List.map_cons, ← partssM_shf kids (d + 1) c, show d + c + 1 = d + 1 + c by omega]
theorem partssM_shf : ∀ (ts : List Tm) (d c : Int), partssM (d + c) ts = (partssM d ts).map fun x => (x.1 + c, x.2)
 | [], _, _ => by unfold partssM; rfl
 | t :: ts, d, c => by
  unfold partssM
  rw [List.map_append, ← partsM_shf t d c, ← partssM_shf ts d c]
end
theorem partss_has : ∀ (ts : List Tm) (d : Int) (k : Nat) (hk : k < ts.length), (∀ x ∈ partsM d ts[k], x ∈ partssM d ts) ∧ (partsM d ts[k]).length ≤ (partssM d ts).length
 | [], _, _, hk => absurd hk (by simp)
 | t :: ts, d, 0, _ => by
  unfold partssM
  exact ⟨fun x hx => List.mem_append_left _ hx, by rw [List.length_append]; simp⟩
 | t :: ts, d, k + 1, hk => by
  obtain ⟨h1, h2⟩ := partss_has ts d k (by simpa using hk)
  unfold partssM
  exact ⟨fun x hx => List.mem_append_right _ (h1 x (by simpa using hx)), by rw [List.length_append]; simp only [List.getElem_cons_succ]; omega⟩
theorem inL_append (xs ys : List ByteArray) (x : List UInt8) : inL (xs ++ ys) x = (inL xs x || inL ys x) := List.any_append
theorem inL_bndL (T : Tm) (x : List UInt8) : ∀ (n i : Nat), i < n → inL (boundL T i) x = true → inL (bndL T n) x = true
 | n + 1, i, h, hx => by
  unfold bndL
  rw [inL_append]
  by_cases hi : i < n
  ·rw [inL_bndL T x n i hi hx]; rfl
  ·obtain rfl : i = n := by omega
   rw [hx, Bool.or_true]
theorem inL_standLs (x : List UInt8) : ∀ (ts : List Tm) (t : Tm), t ∈ ts → inL (standN t) x = true → inL (standLs ts) x = true
 | u :: ts, t, h, hx => by
  unfold standLs
  rw [inL_append]
  rcases List.mem_cons.1 h with rfl | h
  ·rw [hx]; rfl
  ·rw [inL_standLs x ts t h hx, Bool.or_true]
theorem inL_standLs' (x : List UInt8) : ∀ (ts : List Tm), inL (standLs ts) x = true → ∃ t ∈ ts, inL (standN t) x = true
 | [], h => by simp [standLs, inL] at h
 | u :: ts, h => by
  unfold standLs at h
  rw [inL_append, Bool.or_eq_true] at h
  rcases h with h | h
  ·exact ⟨u, List.mem_cons_self, h⟩
  ·obtain ⟨t, ht, hx⟩ := inL_standLs' x ts h
   exact ⟨t, List.mem_cons_of_mem _ ht, hx⟩
theorem stand_self (T : Tm) (x : List UInt8) (h : inL (standN T) x = true) : inL (standL T) x = true :=
 inL_standLs x _ T (by rw [partsM_eq]; exact List.mem_cons_self) h
theorem stand_bnd (T : Tm) (i : Nat) (hi : i < T.kids.length) (x : List UInt8) (h : inL (boundL T i) x = true) : inL (standL T) x = true :=
 stand_self T _ (by unfold standN; rw [inL_append, inL_bndL T x _ i hi h, Bool.or_true])
theorem stand_kid (T : Tm) (i : Nat) (hi : i < T.kids.length) (x : List UInt8) (h : inL (standL T.kids[i]) x = true) : inL (standL T) x = true := by
 obtain ⟨t, ht, hx⟩ := inL_standLs' x _ h
 obtain ⟨y, hy, rfl⟩ := List.mem_map.1 ht
 refine inL_standLs x _ y.2 ?_ hx
 rw [partsM_eq, List.map_cons]
 refine List.mem_cons_of_mem _ ?_
 have e : partsM 2 T.kids[i] = (partsM 1 T.kids[i]).map fun x => (x.1 + 1, x.2) := partsM_shf T.kids[i] 1 1
 have hm : (y.1 + 1, y.2) ∈ partsM 2 T.kids[i] := by rw [e]; exact List.mem_map_of_mem (f := fun x : Int × Tm => (x.1 + 1, x.2)) hy
 exact List.mem_map_of_mem (f := fun x : Int × Tm => x.2) (a := (y.1 + 1, y.2)) ((partss_has T.kids 2 i hi).1 (y.1 + 1, y.2) hm)
def rnL : Sc → List UInt8 → List UInt8
 | [], y => y
 | (n, s) :: sc, y => if n.toList == y then s.toList else rnL sc y
theorem rnL_find : ∀ (sc : Sc) (t : ByteArray), rnL sc t.toList = ((findS sc t).getD t).toList
 | [], _ => rfl
 | (n, s) :: sc, t => by
  unfold rnL findS
  split
  ·rfl
  ·exact rnL_find sc t
theorem rnL_skip : ∀ (bs os : List ByteArray) (sc : Sc) (y : List UInt8), os.length = bs.length → inL bs y = false → rnL (pushS bs os sc) y = rnL sc y
 | [], [], _, _, _, _ => rfl
 | b :: bs, o :: os, sc, y, hl, h => by
  have h2 : b.toList ≠ y ∧ inL bs y = false := by simpa [inL] using h
  rw [pushS_cons, rnL_skip bs os _ y (by simpa using hl) h2.2]
  conv => lhs; unfold rnL
  rw [if_neg (by simpa using h2.1)]
theorem rnL_out : ∀ (bs os : List ByteArray) (sc : Sc) (y : List UInt8), os.length = bs.length → inL bs y = true → ∃ p ∈ bs.zip os, p.1.toList = y ∧ rnL (pushS bs os sc) y = p.2.toList
 | b :: bs, o :: os, sc, y, hl, h => by
  rw [pushS_cons]
  by_cases h2 : inL bs y = true
  ·obtain ⟨p, hp, h3⟩ := rnL_out bs os ((b, o) :: sc) y (by simpa using hl) h2
   exact ⟨p, List.mem_cons_of_mem _ hp, h3⟩
  ·have h3 : b.toList = y := by
    unfold inL at h h2
    rw [List.any_cons, Bool.or_eq_true] at h
    rcases h with h | h
    ·simpa using h
    ·exact absurd h h2
   refine ⟨(b, o), List.mem_cons_self, h3, ?_⟩
   rw [rnL_skip bs os _ y (by simpa using hl) (by simpa using h2)]
   conv => lhs; unfold rnL
   rw [if_pos (by simpa using h3)]
theorem inL_mem {ss : List ByteArray} {x : List UInt8} (h : inL ss x = true) : ∃ s ∈ ss, s.toList = x := by
 unfold inL at h
 rw [List.any_eq_true] at h
 obtain ⟨s, hs, he⟩ := h
 exact ⟨s, hs, by simpa using he⟩
theorem mem_inL {ss : List ByteArray} {s : ByteArray} (h : s ∈ ss) : inL ss s.toList = true := by
 unfold inL
 rw [List.any_eq_true]
 exact ⟨s, h, by simp⟩
theorem pats_of_fits {T : Tm} (h : T.fits = true) : T.op ≠ 15 → T.pats = [] := fun h15 => by
 unfold Tm.fits patsFitB at h
 simp only [Bool.and_eq_true] at h
 have := h.2
 rw [if_neg h15] at this
 exact List.eq_nil_of_length_eq_zero (of_decide_eq_true this)
end Go.Proofs.YtjpahjfjpkbcnaaGreat
